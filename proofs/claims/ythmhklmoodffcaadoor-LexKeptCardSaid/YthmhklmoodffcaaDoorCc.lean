/- The walk of LexKept. -/
import Derived.Test.YthmhklmoodffcaaDoorCb
import Derived.Test.YthmhklmoodffcaaDoorCa
import Derived.Deep.RegionHeld3
set_option linter.unusedVariables false
set_option linter.unusedSimpArgs false
namespace Go.Proofs.YthmhklmoodffcaaDoor
open Go.RowKit Go.Shelf

theorem wp_append_reads {w : World} {o : Oper} {a : Act} {K : Act → World → Prop} {Q : Exit → Act → World → Prop} (s x : Operand)
    (ho : o.op = .call { callee := .builtin .append, args := #[s, x], argTypes := #[44, 44] })
    (base : Nat) (v u : Value) (n : Nat) (xs : List Value) (hs : a.eval s = v) (hown : w.ownsRow base 58 3 v n xs) (hx : a.eval x = u) (ls : List Lx) (hu : ReadsLx w u ls) (hbase : base ≤ w.heap.size) (hn : n + ls.length ≤ 2000)
    (h : ∀ v' w', w'.ownsRow base 58 3 v' (n + ls.length) (xs ++ rowCells ls) → Below base w w' → K (a.put o.dst v') w') : o.wp Tryd.prog a w K Q := by
  obtain ⟨i0, hi, hz0, hz1, hz2⟩ := info_parts infoL
  obtain ⟨p, cap, rfl, hl, h0⟩ := hu
  have hlt := hown.lt
  cases p with
  | none =>
    have h00 : ls.length = 0 := by
      rcases h0 with h0 | ⟨b, off, hp, _⟩
      · exact h0
      · cases hp
    have hls : ls = [] := List.length_eq_zero_iff.1 h00
    subst hls
    refine Lib.wp_append_run w s x _ _ ho v (.slice none 0 cap) hs hx v w (run_append_zero w base _ _ _ i0 3 _ Tryd.underlying44 hi v n xs hown cap) (h v w ?_ (Below.refl _ _))
    simpa [rowCells] using hown
  | some ad =>
    have hcells : ∀ j u, (rowCells ls)[j]? = some u → w.cell? (ad.add j) = some u := by
      rcases h0 with h0 | ⟨b, off, hp, hc⟩
      · have hls : ls = [] := List.length_eq_zero_iff.1 h0
        subst hls
        intro j u hj; simp [rowCells] at hj
      · simp only [Option.some.injEq] at hp
        subst hp
        intro j u hj
        have hadd : (⟨b, off, none⟩ : Addr).add j = ⟨b, off + j, none⟩ := by unfold Addr.add; split <;> simp_all
        rw [hadd]; exact reads_cells hc j u hj
    refine wp_append_own w s x _ ho base 58 i0 _ 3 32 Tryd.underlying44 hi hz0 hz1 hz2 rfl (by decide) v n xs hs hown ad ls.length cap (rowCells ls) hx (rowCells_length ls) hcells (rowCells_one ls) (by unfold maxLen; omega) (by omega) hbase ?_
    intro v' w' h1 h2 _
    exact h v' w' h1 (Below.grown (Below.refl _ _) h2 hbase (fun k hk => (hlt k hk).1))
theorem step_append_reads {ops : Array Oper} {w : World} {o : Oper} {a : Act} {K : Act → World → Prop} {Q : Exit → Act → World → Prop} {E : Prop} (hg : o.guard = none) (s x : Operand)
    (ho : o.op = .call { callee := .builtin .append, args := #[s, x], argTypes := #[44, 44] })
    (base : Nat) (v u : Value) (n : Nat) (xs : List Value) (hs : a.eval s = v) (hown : w.ownsRow base 58 3 v n xs) (hx : a.eval x = u) (ls : List Lx) (hu : ReadsLx w u ls) (hbase : base ≤ w.heap.size) (hn : n + ls.length ≤ 2000)
    (h : ∀ v' w', w'.ownsRow base 58 3 v' (n + ls.length) (xs ++ rowCells ls) → Below base w w' → K (a.put o.dst v') w') :
    if Region.wanted o (yielded ops a.tmps) = true then Oper.wp Tryd.prog o a w K Q else E := by
  have hw : Region.wanted o (yielded ops a.tmps) = true := by simp [Region.wanted, hg]
  rw [if_pos hw]
  exact wp_append_reads s x ho base v u n xs hs hown hx ls hu hbase hn h

set_option maxRecDepth 100000 in
set_option maxHeartbeats 8000000 in
theorem kept_walk (s t put : List UInt8) (F T : Nat) (L N M : List Lx) (hd tl : Nat) (G A A2 : Int) (w : World) (he : ErrOk w) (hs : s.length ≤ 2500) (hput : put.length ≤ 2500) (hFT : F ≤ T) (hTs : T ≤ s.length)
    (hl : L.length ≤ 900) (hln : N.length ≤ 900) (hlm : M.length ≤ 900) (hht : hd + tl ≤ L.length) (hsum : hd + N.length + tl ≤ 900) (hG : G = (put.length : Int) - ((T : Int) - F))
    (hp1 : Hid (∀ y ∈ L, 0 ≤ y.2.2 ∧ y.2.2 ≤ 2500)) (hp2 : Hid (∀ y ∈ N, 0 ≤ y.2.2 ∧ y.2.2 ≤ 2500)) (htx : Hid (∀ y ∈ L, y.2.1.length ≤ 2500))
    (hpatch : Hid (patchL L N hd tl G = M))
    (hkA : Hid (∀ k, k < L.length → (L.getD k zLx).2.2 + ((L.getD k zLx).2.1.length : Int) < F → k < hd))
    (hkB : Hid (∀ j : Nat, T ≤ j → (j = s.length ∨ (j < s.length ∧ s.getD j 0 = 10)) → ∀ k, k < L.length → (j : Int) < (L.getD k zLx).2.2 → L.length ≤ k + tl))
    (CR : Hid (∀ W, Below w.heap.size w W → Calls Tryd.prog 39 #[.string (mkS s), .agg #[.int .i64 F, .int .i64 T, .string (mkS put)]] W fun e w' => ∃ v, e = .returned (.tuple #[.agg #[.int .i64 hd, .int .i64 tl, v], .int .i64 0, .int .i64 0]) ∧ ReadsLx w' v N ∧ Below W.heap.size W w'))
    (CS : Hid (∀ W, Below w.heap.size w W → Calls Tryd.prog 36 #[.string (mkS s)] W (ScanP L A 0 W)))
    (CA : Hid (∀ W, Calls Tryd.prog 24 #[.string (mkS s), .agg #[.int .i64 F, .int .i64 T, .string (mkS put)]] W fun e w' => e = .returned (.tuple #[.string (mkS t), .int .i64 0]) ∧ Below W.heap.size W w'))
    (CT : Hid (∀ W, Below w.heap.size w W → Calls Tryd.prog 36 #[.string (mkS t)] W (ScanP M A2 0 W))) :
    Calls Tryd.prog 13 #[.string (mkS s), .agg #[.int .i64 F, .int .i64 T, .string (mkS put)]] w fun e w' => e = .returned (.bool true) ∧ Below w.heap.size w w' := by
  have CW : Hid (∀ W, Below w.heap.size w W → Calls Tryd.prog 16 #[] W fun e w' => e = .returned (.bool true) ∧ Below W.heap.size W w') := fun W hW => awake_any W (he.below hW)
  have CS1 : Hid (∀ W, Calls Tryd.prog 15 #[.string (mkS s)] W fun e w' => e = .returned (.bool true) ∧ W = w') := fun W => short_yes s W (by omega)
  have CS2 : Hid (∀ W, Calls Tryd.prog 15 #[.string (mkS put)] W fun e w' => e = .returned (.bool true) ∧ W = w') := fun W => short_yes put W (by omega)
  have CP : Hid (∀ W base v u, W.ownsRow base 58 3 v (0 + L.length) ([] ++ rowCells L) → ReadsLx W u N → Calls Tryd.prog 33 #[v, .agg #[.int .i64 F, .int .i64 T, .string (mkS put)], .agg #[.int .i64 hd, .int .i64 tl, u]] W fun e w' =>
      ∃ v', e = .returned (.tuple #[v', .int .i64 0]) ∧ ReadsLx w' v' M ∧ Below W.heap.size W w') := fun W base v u hv hu => by
    rw [← hpatch.out]
    exact patch_any L N v u hd tl F T put G W base (by simpa using hv) hu hFT (by omega) hl hln hht hsum hput hG hp1.out hp2.out
  obtain ⟨n, hn⟩ : ∃ n, n = L.length := ⟨_, rfl⟩
  have HN := Lib.hid hn
  have c1 : decide (900 < (n : Int)) = false := decide_eq_false (by omega)
  have c1' : ¬ 900 < n := by omega
  have c2 : decide ((hd : Int) < 0) = false := decide_eq_false (by omega)
  have c2' : ¬ (hd : Int) < 0 := by omega
  have c3 : decide ((tl : Int) < 0) = false := decide_eq_false (by omega)
  have c3' : ¬ (tl : Int) < 0 := by omega
  have c4 : decide ((n : Int) < (hd : Int)) = false := decide_eq_false (by omega)
  have c4' : ¬ n < hd := by omega
  have s1 : IntKind.i64.wrap ((n : Int) - (hd : Int)) = (n : Int) - (hd : Int) := IntWalk.i64_in _ (by omega)
  have c5 : decide ((n : Int) - (hd : Int) < (tl : Int)) = false := decide_eq_false (by omega)
  have c5' : ¬ (n : Int) - (hd : Int) < (tl : Int) := by omega
  have HSZ : Hid ((mkS s).size = s.length) := mkS_size s
  have HTS := Lib.hid hTs
  have HFT := Lib.hid hFT
  have HHT : Hid (hd + tl ≤ n) := by show _ ≤ _; omega
  have hsz : (mkS s).size ≤ 2500 := by rw [HSZ.out]; exact hs
  have hl' : n ≤ 900 := by omega
  have hT2 : T ≤ 2500 := by omega
  have hF2 : F ≤ 2500 := by omega
  have htl2 : tl ≤ n := by omega
  have HLM := Lib.hid hlm
  have HHL := Lib.hid hl
  clear he hs hput hFT hTs hl hln hht hsum hG hn hlm
  go_enter Tryd.func13, Tryd.ntmps13
  have HB0 : Hid (Below w.heap.size w (w.alloc (.cells #[.int .i64 F, .int .i64 T, .string (mkS put)] 34))) := (Below.refl _ _).alloc (Nat.le_refl _) _
  go_wp2_with fail
  refine (CR.out _ HB0.out).mono ?_
  rintro e w1 ⟨vN, rfl, hrN, hb1⟩
  have HB1 := Lib.hid (HB0.out.trans (hb1.mono (by simp)))
  have KX : Hid (w1.cell? ⟨w.heap.size, 0, none⟩ = some (.int .i64 F) ∧ w1.cell? ⟨w.heap.size, 1, none⟩ = some (.int .i64 T) ∧ w1.cell? ⟨w.heap.size, 2, none⟩ = some (.string (mkS put))) :=
    ⟨(hb1.cell (by simp)).trans (by simp [go_sem]), (hb1.cell (by simp)).trans (by simp [go_sem]), (hb1.cell (by simp)).trans (by simp [go_sem])⟩
  have RN' := Lib.hid hrN
  obtain ⟨pN, cN, hvN, _, _⟩ := hrN
  obtain ⟨mN, hmN⟩ : ∃ mN, mN = N.length := ⟨_, rfl⟩
  rw [← hmN] at hvN
  subst hvN
  have RN := RN'
  clear hmN
  obtain ⟨k0, k1, k2⟩ := KX.out
  have hzx : w.heap.size < w1.heap.size := cell_lt k0
  clear hb1 k0 k1
  go_wp2_with fail
  refine (CS1.out _).mono ?_
  rintro e w' ⟨rfl, rfl⟩
  go_wp2_with fail
  refine (CS2.out _).mono ?_
  rintro e w' ⟨rfl, rfl⟩
  clear k2
  go_wp2_with fail
  refine (CS.out _ (HB1.out.alloc HB1.out.size _)).mono ?_
  rintro e w2 ⟨vL, rfl, hownL, hb2⟩
  have HB2' : Hid (Below (w1.heap.size + 1) (w1.alloc (.cells #[.int .i64 hd, .int .i64 tl, .slice pN mN cN] 46)) w2) := by
    have := hb2
    simp at this ⊢
    exact this
  have RL2 := Lib.hid (reads_own hownL (by have := HHL.out; omega))
  clear hownL hb2
  have HB2 : Hid (Below w.heap.size w w2) := (HB1.out.alloc HB1.out.size _).trans (HB2'.out.mono (by have := HB1.out.size; omega))
  have KX2 : Hid (w2.cell? ⟨w.heap.size, 0, none⟩ = some (.int .i64 F) ∧ w2.cell? ⟨w.heap.size, 1, none⟩ = some (.int .i64 T) ∧ w2.cell? ⟨w.heap.size, 2, none⟩ = some (.string (mkS put)) ∧ w2.cell? ⟨w1.heap.size, 0, none⟩ = some (.int .i64 hd) ∧ w2.cell? ⟨w1.heap.size, 1, none⟩ = some (.int .i64 tl) ∧ w2.cell? ⟨w1.heap.size, 2, none⟩ = some (.slice pN mN cN) ∧ ReadsLx w2 (.slice pN mN cN) N) := by
    obtain ⟨x0, x1, x2⟩ := KX.out
    have hb12 : Below w1.heap.size w1 w2 := ((Below.refl _ _).alloc (Nat.le_refl _) _).trans (HB2'.out.mono (by omega))
    refine ⟨(hb12.cell hzx).trans x0, (hb12.cell hzx).trans x1, (hb12.cell hzx).trans x2, ?_, ?_, ?_, RN.out.below hb12⟩
    · exact (HB2'.out.cell (by simp)).trans (by simp [go_sem])
    · exact (HB2'.out.cell (by simp)).trans (by simp [go_sem])
    · exact (HB2'.out.cell (by simp)).trans (by simp [go_sem])
  have hRL2 := RL2.out
  obtain ⟨pL, cL, hvL, _, _⟩ := hRL2
  rw [← HN.out] at hvL
  subst hvL
  obtain ⟨k0, k1, k2, _⟩ := KX2.out
  have hz2 : w.heap.size < w2.heap.size := cell_lt k0
  go_wp2_with fail
  refine (CA.out _).mono ?_
  rintro e w3 ⟨rfl, hb3⟩
  have HB23 := Lib.hid hb3
  have HB3 := Lib.hid (HB2.out.trans (hb3.mono HB2.out.size))
  clear hb3 k0 k1 k2 hz2
  go_wp2_with fail
  refine (CT.out _ HB3.out).mono ?_
  rintro e w4 ⟨vM, rfl, hownM, hb4⟩
  have HB24 := Lib.hid (HB23.out.trans (hb4.mono HB23.out.size))
  have HB4 := Lib.hid (HB3.out.trans (hb4.mono HB3.out.size))
  have RM := Lib.hid (reads_own hownM (by have := HLM.out; omega))
  have RL := Lib.hid (RL2.out.below HB24.out)
  have KX4 : Hid (w4.cell? ⟨w.heap.size, 0, none⟩ = some (.int .i64 F) ∧ w4.cell? ⟨w.heap.size, 1, none⟩ = some (.int .i64 T) ∧ w4.cell? ⟨w.heap.size, 2, none⟩ = some (.string (mkS put)) ∧ w4.cell? ⟨w1.heap.size, 0, none⟩ = some (.int .i64 hd) ∧ w4.cell? ⟨w1.heap.size, 1, none⟩ = some (.int .i64 tl) ∧ w4.cell? ⟨w1.heap.size, 2, none⟩ = some (.slice pN mN cN) ∧ ReadsLx w4 (.slice pN mN cN) N) := by
    obtain ⟨x0, x1, x2, x3, x4, x5, x6⟩ := KX2.out
    have hb := HB24.out
    exact ⟨(hb.cell (cell_lt x0)).trans x0, (hb.cell (cell_lt x1)).trans x1, (hb.cell (cell_lt x2)).trans x2, (hb.cell (cell_lt x3)).trans x3, (hb.cell (cell_lt x4)).trans x4, (hb.cell (cell_lt x5)).trans x5, x6.below hb⟩
  obtain ⟨y0, y1, y2, y3, y4, y5, _⟩ := KX4.out
  have hzw : w.heap.size < w4.heap.size := cell_lt y0
  have hzc : w1.heap.size < w4.heap.size := cell_lt y3
  have KS : Hid (∀ W, Below w4.heap.size w4 W → (W.cell? ⟨w.heap.size, 0, none⟩ = some (.int .i64 F) ∧ W.cell? ⟨w.heap.size, 1, none⟩ = some (.int .i64 T) ∧ W.cell? ⟨w.heap.size, 2, none⟩ = some (.string (mkS put)) ∧ W.cell? ⟨w1.heap.size, 0, none⟩ = some (.int .i64 hd) ∧ W.cell? ⟨w1.heap.size, 1, none⟩ = some (.int .i64 tl) ∧ W.cell? ⟨w1.heap.size, 2, none⟩ = some (.slice pN mN cN) ∧ w.heap.size < W.heap.size ∧ w1.heap.size < W.heap.size ∧ Below w4.heap.size w4 W)) := fun W hW =>
    ⟨(hW.cell hzw).trans y0, (hW.cell hzw).trans y1, (hW.cell hzw).trans y2, (hW.cell hzc).trans y3, (hW.cell hzc).trans y4, (hW.cell hzc).trans y5, Nat.lt_of_lt_of_le hzw hW.size, Nat.lt_of_lt_of_le hzc hW.size, hW⟩
  have CP' : Hid (∀ W v, W.ownsRow w4.heap.size 58 3 v (0 + L.length) ([] ++ rowCells L) → Below w4.heap.size w4 W → Calls Tryd.prog 33 #[v, .agg #[.int .i64 F, .int .i64 T, .string (mkS put)], .agg #[.int .i64 hd, .int .i64 tl, .slice pN mN cN]] W fun e w' =>
      ∃ v', e = .returned (.tuple #[v', .int .i64 0]) ∧ Hid (ReadsLx w' v' M) ∧ Below w4.heap.size w4 w') := fun W v hv hW =>
    (CP.out W _ v _ hv (KX4.out.2.2.2.2.2.2.below hW)).mono fun e w' ⟨v', h1, h2, h3⟩ => ⟨v', h1, h2, hW.trans (h3.mono hW.size)⟩
  have CE : Hid (∀ W u, ReadsLx W vM M → ReadsLx W u M → Calls Tryd.prog 35 #[vM, u] W fun e w' => e = .returned (.bool true) ∧ Below W.heap.size W w') := fun W u h1 h2 => by
    have := same_any vM u M M W h1 h2
    rw [show (M == M) = true by simp] at this; exact this
  have LEN : Hid (0 + L.length ≤ 2000) := by show _ ≤ _; have := HHL.out; omega
  clear hownM hb4 CP CA CT CS CR y5 y2
  go_wp2
  go_region_held3 (fun W => W.cell? ⟨w.heap.size, 0, none⟩ = some (.int .i64 F) ∧ W.cell? ⟨w.heap.size, 1, none⟩ = some (.int .i64 T) ∧ W.cell? ⟨w.heap.size, 2, none⟩ = some (.string (mkS put)) ∧ W.cell? ⟨w1.heap.size, 0, none⟩ = some (.int .i64 hd) ∧ W.cell? ⟨w1.heap.size, 1, none⟩ = some (.int .i64 tl) ∧ W.cell? ⟨w1.heap.size, 2, none⟩ = some (.slice pN mN cN) ∧ w.heap.size < W.heap.size ∧ w1.heap.size < W.heap.size ∧ Below w4.heap.size w4 W)
    (first | exact KS.out _ (by first | assumption | exact (Below.refl _ _).drew | exact Below.refl _ _ | (refine Below.drew ?_; assumption)))
    (first
      | (go_at_call 33; refine (CP'.out _ _ (by assumption) (by first | assumption | exact (Below.refl _ _).drew | exact Below.refl _ _ | (refine Below.drew ?_; assumption))).mono ?_; rintro e wa ⟨vP, rfl, HRP, hba⟩)
      | (refine step_append_reads rfl _ _ rfl w4.heap.size _ _ 0 [] rfl (World.ownsRow_nil _ _ _ _) rfl L (ReadsLx.below RL.out (by first | assumption | exact (Below.refl _ _).drew | exact Below.refl _ _ | (refine Below.drew ?_; assumption))) (Below.size (w := w4) (B := w4.heap.size) (by first | assumption | exact (Below.refl _ _).drew | exact Below.refl _ _ | (refine Below.drew ?_; assumption))) LEN.out ?_; intro v' w' hown' hb'; have hbX : Below w4.heap.size w4 w' := Below.trans (by first | assumption | exact (Below.refl _ _).drew | exact Below.refl _ _ | (refine Below.drew ?_; assumption)) hb'))
  have HBA := Lib.hid hba
  clear hba
  go_wp2_with fail
  refine (CE.out _ _ (RM.out.below HBA.out) HRP.out).mono ?_
  rintro e w5 ⟨rfl, hb5⟩
  have HB5 := Lib.hid (HBA.out.trans (hb5.mono HBA.out.size))
  obtain ⟨z0, z1, z2, z3, z4, z5, zz, zc, _⟩ := KS.out _ HB5.out
  clear hb5 z0 z2 z3 z4 z5
  go_wp2
  go_loop [18] (fun c => ∃ j : Nat, T ≤ j ∧ j ≤ (mkS s).size ∧ c = .int .i64 j) (fun c => (mkS s).size - (intOf c).toNat)
  case atStart => exact ⟨T, Nat.le_refl _, by rw [HSZ.out]; exact HTS.out, rfl⟩
  case round =>
    obtain ⟨j, hj1, hj2, rfl⟩ := hrel
    clear z1
    by_cases hlt : j < (mkS s).size
    · have b1 : decide ((j : Int) < ((mkS s).size : Int)) = true := decide_eq_true (by omega)
      by_cases h10 : (mkS s)[j] = 10
      · have HJ : Hid (∀ k, k < L.length → (j : Int) < (L.getD k zLx).2.2 → L.length ≤ k + tl) := hkB.out j hj1 (.inr ⟨by rw [← HSZ.out]; exact hlt, by rw [← mkS_getD s j hlt]; exact h10⟩)
        have g1 : (((mkS s)[j].toNat : Int) != 10) = false := by rw [h10]; rfl
        clear h10 CE CP' HRP
        go_wp2
        go_loopw [19] (fun c wr => ∃ k : Nat, k ≤ n ∧ c = .int .i64 k ∧ Hid (Below w5.heap.size w5 wr)) (fun c _ => n - (intOf c).toNat)
        case atStart => exact ⟨0, Nat.zero_le _, rfl, Below.refl _ _⟩
        case round =>
          obtain ⟨k, hk, rfl, hb⟩ := hrel
          have B := hb.out
          clear hb
          by_cases hlt : k < n
          · have hkL : k < L.length := by rw [← HN.out]; exact hlt
            have hB4 : Below w4.heap.size w4 wr := HB5.out.trans (B.mono HB5.out.size)
            obtain ⟨x0, x1, x2, x3, x4, x5, _⟩ := KS.out _ hB4
            obtain ⟨b, off, cap, hv, d1, d2, d3⟩ := reads_at (RL.out.below hB4) k hkL
            simp only [Value.slice.injEq] at hv
            obtain ⟨hvp, hv1, hv2⟩ := hv
            clear hv1 hv2
            subst hvp
            have hA := hkA.out k hkL
            have hBf := HJ.out k hkL
            have hty := htx.out _ (mem_getD hkL)
            have hpy := hp1.out _ (mem_getD hkL)
            obtain ⟨y, hy⟩ : ∃ y, y = L.getD k zLx := ⟨_, rfl⟩
            have ey : L.getD k (0, [], 0) = y := hy.symm
            rw [ey] at d1 d2 d3
            rw [← hy] at hA hBf hty hpy
            have hqs : (mkS y.2.1).size = y.2.1.length := mkS_size _
            have lb : b < wr.heap.size := cell_lt d1
            have lx : w.heap.size < wr.heap.size := cell_lt x0
            have lc : w1.heap.size < wr.heap.size := cell_lt x3
            have t1 : IntKind.i64.wrap (y.2.2 + ((mkS y.2.1).size : Int)) = y.2.2 + ((mkS y.2.1).size : Int) := IntWalk.i64_in _ (by omega)
            have t2 : IntKind.i64.wrap ((n : Int) - (tl : Int)) = (n : Int) - (tl : Int) := IntWalk.i64_in _ (by omega)
            clear hy ey
            by_cases hAc : y.2.2 + ((mkS y.2.1).size : Int) < (F : Int)
            · have q1 : decide (y.2.2 + ((mkS y.2.1).size : Int) < (F : Int)) = true := decide_eq_true hAc
              have hkh : k < hd := hA (by rw [← hqs]; exact hAc)
              have q2 : decide ((hd : Int) ≤ (k : Int)) = false := decide_eq_false (by omega)
              have q2' : decide (hd ≤ k) = false := decide_eq_false (by omega)
              by_cases hBc : (j : Int) < y.2.2
              · have q3 : decide ((j : Int) < y.2.2) = true := decide_eq_true hBc
                have := hBf hBc
                have q4 : decide ((k : Int) < (n : Int) - (tl : Int)) = false := decide_eq_false (by have := HN.out; omega)
                clear hA hBf hAc hBc this hqs hkL
                go_wp2
                go_quiet (fail)
                go_wp2
                go_roundw
                case rel => exact ⟨k + 1, by omega, by go_num, B.trans (below_drewAt _ _ _)⟩
                case measure => simp [intOf]; omega
              · have q3 : decide ((j : Int) < y.2.2) = false := decide_eq_false hBc
                clear hA hBf hAc hBc hqs hkL
                go_wp2
                go_quiet (fail)
                go_wp2
                go_roundw
                case rel => exact ⟨k + 1, by omega, by go_num, B.trans (below_drewAt _ _ _)⟩
                case measure => simp [intOf]; omega
            · have q1 : decide (y.2.2 + ((mkS y.2.1).size : Int) < (F : Int)) = false := decide_eq_false hAc
              by_cases hBc : (j : Int) < y.2.2
              · have q3 : decide ((j : Int) < y.2.2) = true := decide_eq_true hBc
                have := hBf hBc
                have q4 : decide ((k : Int) < (n : Int) - (tl : Int)) = false := decide_eq_false (by have := HN.out; omega)
                clear hA hBf hAc hBc this hqs hkL
                go_wp2
                go_quiet (fail)
                go_wp2
                go_roundw
                case rel => exact ⟨k + 1, by omega, by go_num, B.trans (below_drewAt _ _ _)⟩
                case measure => simp [intOf]; omega
              · have q3 : decide ((j : Int) < y.2.2) = false := decide_eq_false hBc
                clear hA hBf hAc hBc hqs hkL
                go_wp2
                go_quiet (fail)
                go_wp2
                go_roundw
                case rel => exact ⟨k + 1, by omega, by go_num, B.trans (below_drewAt _ _ _)⟩
                case measure => simp [intOf]; omega
          · have HB6 := Lib.hid (HB4.out.trans ((HB5.out.trans (B.mono HB5.out.size)).mono HB4.out.size))
            go_wp2_with fail
            refine (CW.out _ HB6.out).mono ?_
            rintro e w9 ⟨rfl, hb9⟩
            have hF : Below w.heap.size w w9 := HB6.out.trans (hb9.mono HB6.out.size)
            clear hb9
            go_wp2
            go_ret
            exact ⟨ret_bool rfl, hF⟩
      · have g1 : (((mkS s)[j].toNat : Int) != 10) = true := by
          rw [bne_iff_ne]; intro e; exact h10 (UInt8.toNat_inj.1 (by show _ = 10; omega))
        clear h10
        go_wp2
        go_round
        case rel => exact ⟨j + 1, by omega, by omega, by go_num⟩
        case measure => simp [intOf]; omega
    · have b1 : decide ((j : Int) < ((mkS s).size : Int)) = false := decide_eq_false (by omega)
      have HJ : Hid (∀ k, k < L.length → (j : Int) < (L.getD k zLx).2.2 → L.length ≤ k + tl) := hkB.out j hj1 (.inl (by rw [← HSZ.out]; omega))
      clear CE CP' HRP
      go_wp2
      go_loopw [19] (fun c wr => ∃ k : Nat, k ≤ n ∧ c = .int .i64 k ∧ Hid (Below w5.heap.size w5 wr)) (fun c _ => n - (intOf c).toNat)
      case atStart => exact ⟨0, Nat.zero_le _, rfl, Below.refl _ _⟩
      case round =>
        obtain ⟨k, hk, rfl, hb⟩ := hrel
        have B := hb.out
        clear hb
        by_cases hlt : k < n
        · have hkL : k < L.length := by rw [← HN.out]; exact hlt
          have hB4 : Below w4.heap.size w4 wr := HB5.out.trans (B.mono HB5.out.size)
          obtain ⟨x0, x1, x2, x3, x4, x5, _⟩ := KS.out _ hB4
          obtain ⟨b, off, cap, hv, d1, d2, d3⟩ := reads_at (RL.out.below hB4) k hkL
          simp only [Value.slice.injEq] at hv
          obtain ⟨hvp, hv1, hv2⟩ := hv
          clear hv1 hv2
          subst hvp
          have hA := hkA.out k hkL
          have hBf := HJ.out k hkL
          have hty := htx.out _ (mem_getD hkL)
          have hpy := hp1.out _ (mem_getD hkL)
          obtain ⟨y, hy⟩ : ∃ y, y = L.getD k zLx := ⟨_, rfl⟩
          have ey : L.getD k (0, [], 0) = y := hy.symm
          rw [ey] at d1 d2 d3
          rw [← hy] at hA hBf hty hpy
          have hqs : (mkS y.2.1).size = y.2.1.length := mkS_size _
          have lb : b < wr.heap.size := cell_lt d1
          have lx : w.heap.size < wr.heap.size := cell_lt x0
          have lc : w1.heap.size < wr.heap.size := cell_lt x3
          have t1 : IntKind.i64.wrap (y.2.2 + ((mkS y.2.1).size : Int)) = y.2.2 + ((mkS y.2.1).size : Int) := IntWalk.i64_in _ (by omega)
          have t2 : IntKind.i64.wrap ((n : Int) - (tl : Int)) = (n : Int) - (tl : Int) := IntWalk.i64_in _ (by omega)
          clear hy ey
          by_cases hAc : y.2.2 + ((mkS y.2.1).size : Int) < (F : Int)
          · have q1 : decide (y.2.2 + ((mkS y.2.1).size : Int) < (F : Int)) = true := decide_eq_true hAc
            have hkh : k < hd := hA (by rw [← hqs]; exact hAc)
            have q2 : decide ((hd : Int) ≤ (k : Int)) = false := decide_eq_false (by omega)
            have q2' : decide (hd ≤ k) = false := decide_eq_false (by omega)
            by_cases hBc : (j : Int) < y.2.2
            · have q3 : decide ((j : Int) < y.2.2) = true := decide_eq_true hBc
              have := hBf hBc
              have q4 : decide ((k : Int) < (n : Int) - (tl : Int)) = false := decide_eq_false (by have := HN.out; omega)
              clear hA hBf hAc hBc this hqs hkL
              go_wp2
              go_quiet (fail)
              go_wp2
              go_roundw
              case rel => exact ⟨k + 1, by omega, by go_num, B.trans (below_drewAt _ _ _)⟩
              case measure => simp [intOf]; omega
            · have q3 : decide ((j : Int) < y.2.2) = false := decide_eq_false hBc
              clear hA hBf hAc hBc hqs hkL
              go_wp2
              go_quiet (fail)
              go_wp2
              go_roundw
              case rel => exact ⟨k + 1, by omega, by go_num, B.trans (below_drewAt _ _ _)⟩
              case measure => simp [intOf]; omega
          · have q1 : decide (y.2.2 + ((mkS y.2.1).size : Int) < (F : Int)) = false := decide_eq_false hAc
            by_cases hBc : (j : Int) < y.2.2
            · have q3 : decide ((j : Int) < y.2.2) = true := decide_eq_true hBc
              have := hBf hBc
              have q4 : decide ((k : Int) < (n : Int) - (tl : Int)) = false := decide_eq_false (by have := HN.out; omega)
              clear hA hBf hAc hBc this hqs hkL
              go_wp2
              go_quiet (fail)
              go_wp2
              go_roundw
              case rel => exact ⟨k + 1, by omega, by go_num, B.trans (below_drewAt _ _ _)⟩
              case measure => simp [intOf]; omega
            · have q3 : decide ((j : Int) < y.2.2) = false := decide_eq_false hBc
              clear hA hBf hAc hBc hqs hkL
              go_wp2
              go_quiet (fail)
              go_wp2
              go_roundw
              case rel => exact ⟨k + 1, by omega, by go_num, B.trans (below_drewAt _ _ _)⟩
              case measure => simp [intOf]; omega
        · have HB6 := Lib.hid (HB4.out.trans ((HB5.out.trans (B.mono HB5.out.size)).mono HB4.out.size))
          go_wp2_with fail
          refine (CW.out _ HB6.out).mono ?_
          rintro e w9 ⟨rfl, hb9⟩
          have hF : Below w.heap.size w w9 := HB6.out.trans (hb9.mono HB6.out.size)
          clear hb9
          go_wp2
          go_ret
          exact ⟨ret_bool rfl, hF⟩
end Go.Proofs.YthmhklmoodffcaaDoor

namespace Go.Proofs.YthmhklmoodffcaaDoor
open Go.RowKit Go.Shelf

theorem toks_text (p : List UInt8) : ∀ (ls : List Lx) (a : Nat), Toks p a ls → ∀ y ∈ ls, y.2.1.length ≤ p.length
  | [], a, _, y, hy => by simp at hy
  | z :: ls, a, ⟨h1, h2, h3, h4⟩, y, hy => by
    rcases List.mem_cons.1 hy with rfl | hy
    · have := (tokR_prefix (p.drop a) y.1 (by rw [h3])).1
      rw [h3] at this
      have := this.length_le
      simp at this; omega
    · exact toks_text p ls _ h4 y hy

set_option maxRecDepth 100000 in
set_option maxHeartbeats 2000000 in
theorem kept_out (s : List UInt8) (x : Ed) (w : World) (hs : s.length ≤ 140737488355328) (hput : x.2.2.length ≤ 140737488355328) (he : ErrOk w) (h : (rescF s x).2.2 ≠ 0) :
    Calls Tryd.prog 13 #[.string (mkS s), edV x] w fun e w' => e = .returned (.bool true) ∧ Below w.heap.size w w' := by
  have CW : Hid (∀ W, Below w.heap.size w W → Calls Tryd.prog 16 #[] W fun e w' => e = .returned (.bool true) ∧ Below W.heap.size W w') := fun W hW => awake_any W (he.below hW)
  obtain ⟨E, hE⟩ : ∃ E : Int, E = (rescF s x).2.2 := ⟨_, rfl⟩
  obtain ⟨A, hA⟩ : ∃ A : Int, A = (rescF s x).2.1 := ⟨_, rfl⟩
  have CR : Hid (∀ W, Below w.heap.size w W → Calls Tryd.prog 39 #[.string (mkS s), .agg #[.int .i64 x.1, .int .i64 x.2.1, .string (mkS x.2.2)]] W fun e w' => ∃ (hd tl n c : Nat) (p : Option Addr), e = .returned (.tuple #[.agg #[.int .i64 hd, .int .i64 tl, .slice p n c], .int .i64 A, .int .i64 E]) ∧ Below W.heap.size W w') := fun W hW => by
    rw [hE, hA]
    refine (rescan_wide s x W hs hput (he.below hW)).mono ?_
    rintro e w' ⟨v, h1, ⟨p, c, hv, _, _⟩, h3⟩
    subst hv
    exact ⟨_, _, _, _, _, h1, h3⟩
  have hb0 : (E != 0) = true := by rw [bne_iff_ne, hE]; omega
  have HB0 : Hid (Below w.heap.size w (w.alloc (.cells #[.int .i64 x.1, .int .i64 x.2.1, .string (mkS x.2.2)] 34))) := (Below.refl _ _).alloc (Nat.le_refl _) _
  unfold edV
  clear h hE hA he hs hput
  go_enter Tryd.func13, Tryd.ntmps13
  go_wp2_with fail
  refine (CR.out _ HB0.out).mono ?_
  rintro e w1 ⟨hd, tl, n, c, p, rfl, hb1⟩
  have HB1 := Lib.hid ((HB0.out.trans (hb1.mono (by simp))).alloc (by have := hb1.size; simp at this; omega) (.cells #[.int .i64 hd, .int .i64 tl, .slice p n c] 46))
  clear hb1
  go_wp2_with fail
  refine (CW.out _ HB1.out).mono ?_
  rintro e w5 ⟨rfl, hb5⟩
  have hF : Below w.heap.size w w5 := HB1.out.trans (hb5.mono HB1.out.size)
  clear hb5
  go_wp2
  go_ret
  exact ⟨ret_bool rfl, hF⟩

theorem resc_parts {s : List UInt8} {x : Ed} (h : (rescF s x).2.2 = 0) : (scanF s).2.2 = 0 ∧ isEd s x = true ∧ (scanF (splF s x)).2.2 = 0 := by
  unfold rescF at h
  by_cases h1 : (scanF s).2.2 ≠ 0
  · rw [if_pos h1] at h; exact absurd h h1
  · rw [if_neg h1] at h
    cases h2 : isEd s x with
    | true =>
      rw [h2, if_pos rfl] at h
      by_cases h3 : (scanF (splF s x)).2.2 ≠ 0
      · rw [if_pos h3] at h; exact absurd h h3
      · exact ⟨by omega, rfl, by omega⟩
    | false =>
      rw [h2, if_neg (by decide)] at h; simp at h

theorem kept_any (s : List UInt8) (x : Ed) (w : World) (hs : s.length ≤ 140737488355328) (hput : x.2.2.length ≤ 140737488355328) (he : ErrOk w) :
    Calls Tryd.prog 13 #[.string (mkS s), edV x] w fun e w' => e = .returned (.bool true) ∧ Below w.heap.size w w' := by
  by_cases h : (rescF s x).2.2 = 0
  · obtain ⟨h1, h2, h3⟩ := resc_parts h
    obtain ⟨F, T, hx, hFT, hTs⟩ := isEd_nat h2
    obtain ⟨F', T', put⟩ := x
    simp only [Prod.mk.injEq] at hx
    obtain ⟨rfl, rfl, _⟩ := hx
    obtain ⟨k1, k2⟩ := scan_toks h1
    obtain ⟨k3, k4⟩ := scan_toks h3
    have hsl := chkE_len k1
    have htl := chkE_len k3
    have hsp := spL_len s put F T hFT hTs
    have hpl : put.length ≤ 2500 := by omega
    obtain ⟨t, ht⟩ : ∃ t, t = splF s ((F : Int), (T : Int), put) := ⟨_, rfl⟩
    have hKA := kept_head s put F T hFT hTs h1 h3
    have hKB := kept_tail s put F T hFT hTs h1 h3
    have hR : rescF s ((F : Int), (T : Int), put) = ((headF (scanF s).1 (scanF t).1 F, tailF (scanF s).1 (scanF t).1 T ((t.length : Int) - s.length), ((scanF t).1.take ((scanF t).1.length - tailF (scanF s).1 (scanF t).1 T ((t.length : Int) - s.length))).drop (headF (scanF s).1 (scanF t).1 F)), 0, 0) := by
      unfold rescF
      rw [if_neg (by omega), if_pos h2, if_neg (by omega), ht]
    rw [← ht] at h3 k3 k4 htl hsp hKA hKB
    have hdo : doE s ((F : Int), (T : Int), put) = 0 := doE_of k1 h2 (by rw [← ht]; exact k3)
    have hap : applyF s ((F : Int), (T : Int), put) = t := by unfold applyF; rw [if_pos hdo, ht]
    have hl1 := scanF_len s
    have hl2 := scanF_len t
    have pl1 := scanF_places s
    have pl2 := scanF_places t
    obtain ⟨L, hL⟩ : ∃ L, L = (scanF s).1 := ⟨_, rfl⟩
    obtain ⟨M, hM⟩ : ∃ M, M = (scanF t).1 := ⟨_, rfl⟩
    have hFT' : (F : Int) ≤ (T : Int) := by omega
    have hFG : (F : Int) ≤ (T : Int) + ((t.length : Int) - s.length) := by omega
    have hP := kept_patch L M (F : Int) (T : Int) ((t.length : Int) - s.length) hFT' hFG
    have ap1 := apart L M (F : Int) (T : Int) ((t.length : Int) - s.length) hFG
    have ap2 := apartL L M (F : Int) (T : Int) ((t.length : Int) - s.length) hFT'
    rw [← hL, ← hM] at hR hKA hKB
    rw [← hL] at hl1 pl1 k2
    rw [← hM] at hl2 pl2
    obtain ⟨hd, hhd⟩ : ∃ hd, hd = headF L M (F : Int) := ⟨_, rfl⟩
    obtain ⟨tl, htl'⟩ : ∃ tl, tl = tailF L M (T : Int) ((t.length : Int) - s.length) := ⟨_, rfl⟩
    rw [← hhd] at hR hP ap1 ap2 hKA
    rw [← htl'] at hR hP ap1 ap2 hKB
    refine kept_walk s t put F T L ((M.take (M.length - tl)).drop hd) M hd tl ((t.length : Int) - s.length) (scanF s).2.1 (scanF t).2.1 w he hsl hpl hFT hTs hl1 (by simp; omega) hl2 ap2 (by simp; omega) (by omega) ?_ ?_ ?_ hP hKA ?_ ?_ ?_ ?_ ?_
    · intro y hy; have := pl1 y hy; omega
    · intro y hy
      have hy' : y ∈ M := List.mem_of_mem_take (List.mem_of_mem_drop hy)
      have := pl2 y hy'; omega
    · intro y hy
      have := toks_text _ _ _ k2 y hy
      rw [blankL_length] at this; omega
    · intro j hj1 hj2 k hk hlt
      rcases hj2 with rfl | ⟨hj2, h10⟩
      · have := pl1 _ (mem_getD hk); omega
      · exact hKB j hj1 hj2 h10 k hk hlt
    · intro W hW
      have := rescan_wide s ((F : Int), (T : Int), put) W hs hput (he.below hW)
      unfold RescPost at this
      rw [hR] at this; exact this
    · intro W hW
      have := scanP s W (by omega) (he.below hW)
      rw [h1, ← hL] at this; exact this
    · intro W
      have := apply_any s ((F : Int), (T : Int), put) W hs hput
      rw [hap, hdo] at this; exact this
    · intro W hW
      have := scanP t W (by omega) (he.below hW)
      rw [h3, ← hM] at this; exact this
  · exact kept_out s x w hs hput he h
end Go.Proofs.YthmhklmoodffcaaDoor

