/- The reference's Patch at any input; the walk of LexPatches; LexPatches at any arguments. -/
import Derived.Test.YtlhbfgkcalalkaaDoorCk
import Derived.Test.YtlhbfgkcalalkaaDoorNc
import Derived.Test.YtlhbfgkcalalkaaDoorLb
import Derived.Test.YtlhbfgkcalalkaaDoorQa
set_option linter.unusedVariables false
set_option linter.unusedSimpArgs false
namespace Go.Proofs.YtlhbfgkcalalkaaDoor
open Go.ChangeShapes Go.WideShapes Go.ChangeAt Go.RowKit Go.ChangeMaps Go.Deep Go.Shelf

theorem refPatch_all (L N : List Lx) (n m cap cu : Nat) (p pu : Option Addr) (F T H K : Int) (put : List UInt8) (w : World) (hn : n = L.length) (hm : m = N.length) (hcap : n ≤ cap) (hH : H ≤ 9223372036854775807)
    (hp0 : p = none → cap = 0) (hv : ReadsLx w (.slice p n cap) L) (hu : ReadsLx w (.slice pu m cu) N) :
    Calls Tryd.prog 8 #[.slice p n cap, .agg #[.int .i64 F, .int .i64 T, .string (mkS put)], .agg #[.int .i64 H, .int .i64 K, .slice pu m cu]] w fun e w' =>
      ∃ v', e = .returned (.tuple #[v', .int .i64 (patF L N F T H K put).2]) ∧ ReadsLx w' v' (patF L N F T H K put).1 ∧ Below w.heap.size w w' := by
  have hnil : ∀ W : World, ReadsLx W (.slice none 0 0) [] := fun W => ⟨none, 0, rfl, by simp, .inl rfl⟩
  by_cases c1 : 900 < L.length ∨ 900 < N.length ∨ 2500 < put.length
  · have e : patF L N F T H K put = ([], 5) := by unfold patF; rw [if_pos c1]
    rw [e]
    exact (refPatch_limit n m cap cu p pu F T H K put w (by omega)).mono fun e w' ⟨h1, h2⟩ => ⟨_, h1, hnil _, h2⟩
  · have h1 : n ≤ 900 := by omega
    have h2 : m ≤ 900 := by omega
    have h3 : put.length ≤ 2500 := by omega
    cases hr : rngF L.length F T H K with
    | false =>
      have e : patF L N F T H K put = ([], 3) := by unfold patF; rw [if_neg c1, hr, Bool.false_and, if_pos rfl]
      rw [e]
      exact (refPatch_range n m cap cu p pu F T H K put w h1 h2 h3 hH (by rw [hn]; exact hr)).mono fun e w' ⟨h1, h2⟩ => ⟨_, h1, hnil _, h2⟩
    | true =>
      have hrr := hr
      unfold rngF at hrr
      rw [decide_eq_true_eq] at hrr
      by_cases hs : (plF L && plF N) = true → 900 < H + N.length + K
      · have e : patF L N F T H K put = ([], if plF L && plF N then 5 else 3) := by
          unfold patF
          rw [if_neg c1, hr, Bool.true_and]
          cases hp : (plF L && plF N) with
          | false => rw [if_pos rfl]; simp
          | true => rw [if_neg (by decide), if_pos (hs hp)]; simp
        rw [e]
        refine (refPatch_places L N n m cap cu p pu F T H K put w h1 h2 h3 (by rw [hn]; exact hr) hv hu (fun h => by rw [hm]; exact hs h)).mono fun e w' ⟨h1, h2⟩ => ⟨_, ?_, hnil _, h2⟩
        rw [h1]
        cases (plF L && plF N) <;> rfl
      · have hp : (plF L && plF N) = true := Classical.byContradiction fun h => hs fun h' => absurd h' h
        have hs' : ¬ 900 < H + N.length + K := fun h => hs fun _ => h
        have e : patF L N F T H K put = (patchL L N H.toNat K.toNat ((put.length : Int) - (T - F)), 0) := by unfold patF; rw [if_neg c1, hr, hp, if_neg (by decide), if_neg hs']
        rw [e]
        rw [Bool.and_eq_true] at hp
        obtain ⟨F', rfl⟩ : ∃ x : Nat, F = x := ⟨F.toNat, by omega⟩
        obtain ⟨T', rfl⟩ : ∃ x : Nat, T = x := ⟨T.toNat, by omega⟩
        obtain ⟨H', rfl⟩ : ∃ x : Nat, H = x := ⟨H.toNat, by omega⟩
        obtain ⟨K', rfl⟩ : ∃ x : Nat, K = x := ⟨K.toNat, by omega⟩
        cases p with
        | some a => exact refPatch_ok L N n m cap cu a pu F' T' H' K' put _ w hn hm hcap hv hu h1 h2 h3 (by omega) (by omega) (by omega) (by omega) rfl hp.1 hp.2
        | none =>
          obtain rfl := hp0 rfl
          obtain rfl : n = 0 := by omega
          obtain rfl : L = [] := List.length_eq_zero_iff.1 hn.symm
          obtain rfl : H' = 0 := by simp at hrr; omega
          obtain rfl : K' = 0 := by simp at hrr; omega
          exact refPatch_nil N m cu pu F' T' put _ w hm hu h2 h3 (by omega) (by omega) hp.2

theorem bel_step {W0 W wa : World} (h : Below W0.heap.size W0 W) (hb : Below W.heap.size W wa) : Below W0.heap.size W0 wa := h.trans (hb.mono h.size)

set_option maxRecDepth 100000 in
set_option maxHeartbeats 8000000 in
theorem patches_in (L N : List Lx) (n m cap cu : Nat) (p pu : Option Addr) (F T H K : Int) (put : List UInt8) (w : World) (hn : n = L.length) (hm : m = N.length) (hcap : n ≤ cap) (hH : H ≤ 9223372036854775807) (hp0 : p = none → cap = 0)
    (hv : ReadsLx w (.slice p n cap) L) (hu : ReadsLx w (.slice pu m cu) N) (hl : n ≤ 1000) (hlm : m ≤ 1000) (hput : put.length ≤ 3000) (he : ErrOk w)
    (CT1 : Hid (∀ W, Below w.heap.size w W → Calls Tryd.prog 4 #[.slice p n cap] W fun e w' => e = .returned (.bool true) ∧ W = w'))
    (CT2 : Hid (∀ W, Below w.heap.size w W → Calls Tryd.prog 4 #[.slice pu m cu] W fun e w' => e = .returned (.bool true) ∧ W = w')) :
    Calls Tryd.prog 3 #[.slice p n cap, .agg #[.int .i64 F, .int .i64 T, .string (mkS put)], .agg #[.int .i64 H, .int .i64 K, .slice pu m cu]] w fun e w' => e = .returned (.bool true) ∧ Below w.heap.size w w' := by
  have CW : Hid (∀ W, Below w.heap.size w W → Calls Tryd.prog 6 #[] W fun e w' => e = .returned (.bool true) ∧ Below W.heap.size W w') := fun W hW => awake_any W (he.below hW)
  have CS : Hid (∀ W, Calls Tryd.prog 5 #[.string (mkS put)] W fun e w' => e = .returned (.bool true) ∧ W = w') := fun W => short_yes put W hput
  obtain ⟨R, hR⟩ : ∃ R, R = (patF L N F T H K put).1 := ⟨_, rfl⟩
  obtain ⟨E, hE⟩ : ∃ E : Int, E = ((patF L N F T H K put).2 : Int) := ⟨_, rfl⟩
  have CP : Hid (∀ W base v u, W.ownsRow base 36 3 v n (rowCells L) → ReadsLx W u N → Calls Tryd.prog 7 #[v, .agg #[.int .i64 F, .int .i64 T, .string (mkS put)], .agg #[.int .i64 H, .int .i64 K, u]] W fun e w' =>
      ∃ v', e = .returned (.tuple #[v', .int .i64 E]) ∧ Hid (ReadsLx w' v' R) ∧ Hid (Below W.heap.size W w')) := fun W base v u h1 h2 => by
    rw [hR, hE]; exact patch_all L N v u F T H K put W base hH (by omega) (by rw [← hn]; exact h1) h2
  have CQ : Hid (∀ W, Below w.heap.size w W → Calls Tryd.prog 8 #[.slice p n cap, .agg #[.int .i64 F, .int .i64 T, .string (mkS put)], .agg #[.int .i64 H, .int .i64 K, .slice pu m cu]] W fun e w' =>
      ∃ v', e = .returned (.tuple #[v', .int .i64 E]) ∧ Hid (ReadsLx w' v' R) ∧ Hid (Below W.heap.size W w')) := fun W hW => by
    rw [hR, hE]; exact refPatch_all L N n m cap cu p pu F T H K put W hn hm hcap hH hp0 (hv.below hW) (hu.below hW)
  have CE : Hid (∀ (ls : List Lx) W v1 v2, ReadsLx W v1 ls → ReadsLx W v2 ls → Calls Tryd.prog 9 #[v1, v2] W fun e w' => e = .returned (.bool true) ∧ Below W.heap.size W w') := fun ls W v1 v2 h1 h2 => by
    have := same_any v1 v2 ls ls W h1 h2
    rw [show (ls == ls) = true by simp] at this; exact this
  have HV := Lib.hid hv
  have HU := Lib.hid hu
  have HN := Lib.hid hn
  have HM := Lib.hid hm
  have HL0 : Hid (0 + L.length ≤ 2000) := by show _ ≤ _; omega
  have HL1 : Hid (0 + N.length ≤ 2000) := by show _ ≤ _; omega
  obtain ⟨W0, hW0⟩ : ∃ W0, W0 = ((w.alloc (.cells #[.int .i64 F, .int .i64 T, .string (mkS put)] 24)).alloc (.cells #[.int .i64 H, .int .i64 K, .slice pu m cu] 26)) := ⟨_, rfl⟩
  have HW0 : Hid (((w.alloc (.cells #[.int .i64 F, .int .i64 T, .string (mkS put)] 24)).alloc (.cells #[.int .i64 H, .int .i64 K, .slice pu m cu] 26)) = W0) := hW0.symm
  have HB0 : Hid (Below w.heap.size w W0) := by show Below _ _ _; rw [hW0]; exact ((Below.refl _ _).alloc (Nat.le_refl _) _).alloc (by simp) _
  have k0 : W0.cell? ⟨w.heap.size, 0, none⟩ = some (.int .i64 F) := by rw [hW0]; simp [go_sem]
  have k1 : W0.cell? ⟨w.heap.size, 1, none⟩ = some (.int .i64 T) := by rw [hW0]; simp [go_sem]
  have k2 : W0.cell? ⟨w.heap.size, 2, none⟩ = some (.string (mkS put)) := by rw [hW0]; simp [go_sem]
  have m0 : W0.cell? ⟨w.heap.size + 1, 0, none⟩ = some (.int .i64 H) := by rw [hW0]; simp [go_sem]
  have m1 : W0.cell? ⟨w.heap.size + 1, 1, none⟩ = some (.int .i64 K) := by rw [hW0]; simp [go_sem]
  have m2 : W0.cell? ⟨w.heap.size + 1, 2, none⟩ = some (.slice pu m cu) := by rw [hW0]; simp [go_sem]
  have hz : w.heap.size + 1 < W0.heap.size := cell_lt m0
  have hz0 : w.heap.size < W0.heap.size := by omega
  have KS : Hid (∀ W, Below W0.heap.size W0 W → (W.cell? ⟨w.heap.size + 1, 2, none⟩ = some (.slice pu m cu) ∧ w.heap.size + 1 < W.heap.size ∧ Below W0.heap.size W0 W)) := fun W hW => ⟨(hW.cell hz).trans m2, Nat.lt_of_lt_of_le hz hW.size, hW⟩
  have KX : Hid (∀ W, Below W0.heap.size W0 W → W.cell? ⟨w.heap.size, 0, none⟩ = some (.int .i64 F) ∧ W.cell? ⟨w.heap.size, 1, none⟩ = some (.int .i64 T) ∧ W.cell? ⟨w.heap.size, 2, none⟩ = some (.string (mkS put)) ∧ W.cell? ⟨w.heap.size + 1, 0, none⟩ = some (.int .i64 H) ∧ W.cell? ⟨w.heap.size + 1, 1, none⟩ = some (.int .i64 K) ∧ W.cell? ⟨w.heap.size + 1, 2, none⟩ = some (.slice pu m cu) ∧ w.heap.size + 1 < W.heap.size ∧ w.heap.size < W.heap.size ∧ Below w.heap.size w W) := fun W hW =>
    ⟨(hW.cell hz0).trans k0, (hW.cell hz0).trans k1, (hW.cell hz0).trans k2, (hW.cell hz).trans m0, (hW.cell hz).trans m1, (hW.cell hz).trans m2, Nat.lt_of_lt_of_le hz hW.size, Nat.lt_of_lt_of_le hz0 hW.size, HB0.out.trans (hW.mono (by omega))⟩
  have HV0 : Hid (∀ W, Below W0.heap.size W0 W → ReadsLx W (.slice p n cap) L ∧ ReadsLx W (.slice pu m cu) N) := fun W hW => ⟨HV.out.below (HB0.out.trans (hW.mono (by omega))), HU.out.below (HB0.out.trans (hW.mono (by omega)))⟩
  clear hn hm hcap hH hp0 hv hu hl hlm hput he hR hE hW0
  go_enter Tryd.func3, Tryd.ntmps3
  go_wp2_with fail
  simp only [HW0.out]
  refine (CT1.out _ HB0.out).mono ?_
  rintro e w' ⟨rfl, rfl⟩
  go_wp2_with fail
  refine (CS.out _).mono ?_
  rintro e w' ⟨rfl, rfl⟩
  go_wp2_with fail
  refine (CT2.out _ HB0.out).mono ?_
  rintro e w' ⟨rfl, rfl⟩
  clear k0 k1 k2 m0 m1
  go_wp2
  go_region_held3 (fun W => W.cell? ⟨w.heap.size + 1, 2, none⟩ = some (.slice pu m cu) ∧ w.heap.size + 1 < W.heap.size ∧ Below W0.heap.size W0 W)
    (first | exact KS.out _ (by first | assumption | exact (Below.refl _ _).drew | exact Below.refl _ _ | (refine Below.drew ?_; assumption)))
    (first
      | (refine step_append_reads2 rfl _ _ rfl _ _ _ 0 [] rfl (World.ownsRow_nil _ _ _ _) rfl L (HV0.out _ (by first | assumption | exact (Below.refl _ _).drew | exact Below.refl _ _ | (refine Below.drew ?_; assumption))).1 (Nat.le_refl _) HL0.out ?_; intro va wa hownA hbA; have hbA2 : Below W0.heap.size W0 wa := bel_step (by first | assumption | exact (Below.refl _ _).drew | exact Below.refl _ _ | (refine Below.drew ?_; assumption)) hbA)
      | (refine step_append_reads2 rfl _ _ rfl _ _ _ 0 [] rfl (World.ownsRow_nil _ _ _ _) rfl N (HV0.out _ (by first | assumption | exact (Below.refl _ _).drew | exact Below.refl _ _ | (refine Below.drew ?_; assumption))).2 (Nat.le_refl _) HL1.out ?_; intro vb wb hownB hbB; have hbB2 : Below W0.heap.size W0 wb := bel_step (by first | assumption | exact (Below.refl _ _).drew | exact Below.refl _ _ | (refine Below.drew ?_; assumption)) hbB))
  have hownB2 : wb.ownsRow wa.heap.size 36 3 vb m (rowCells N) := by rw [HM.out]; simpa using hownB
  clear hownB
  obtain ⟨pb, cb, rfl⟩ := ownsRow_slice hownB2
  have RA : Hid (wb.ownsRow W0.drew.heap.size 36 3 va n (rowCells L)) := by
    show World.ownsRow _ _ _ _ _ _ _
    have := ownsRow_below hownA hbB
    rw [HN.out]; simpa using this
  have RAr : Hid (ReadsLx wb va L) := by
    show ReadsLx _ _ _
    have := ownsRow_below hownA hbB
    exact reads_own (by simpa using this) (by have := HL0.out; omega)
  have RBr : Hid (ReadsLx wb (.slice pb m cb) N) := by
    show ReadsLx _ _ _
    rw [HM.out] at hownB2 ⊢
    exact reads_own hownB2 (by have := HL1.out; omega)
  have HBB := Lib.hid hbB2
  obtain ⟨x0, x1, x2, x3, x4, x5, x6, x7, _⟩ := KX.out _ hbB2
  clear hownA hbA hbA2 hownB2 hbB hbB2 m2
  go_wp2_with fail
  refine (CP.out _ _ _ _ RA.out RBr.out).mono ?_
  rintro e w3 ⟨v3, rfl, HR1, hb3⟩
  have HB3 := Lib.hid (HBB.out.trans (hb3.out.mono HBB.out.size))
  clear x0 x1 x2 x3 x4 x5 x6 x7
  obtain ⟨x0, x1, x2, x3, x4, x5, x6, x7, x8⟩ := KX.out _ HB3.out
  have HX8 := Lib.hid x8
  clear x8
  go_wp2_with fail
  refine (CQ.out _ HX8.out).mono ?_
  rintro e w4 ⟨v4, rfl, HR2, hb4⟩
  have HB4 := Lib.hid (HB3.out.trans (hb4.out.mono HB3.out.size))
  have HW4 := Lib.hid (hb3.out.trans (hb4.out.mono hb3.out.size))
  have HR14 := Lib.hid (HR1.out.below hb4.out)
  clear x0 x1 x2 x3 x4 x5 x6 x7
  go_wp2_with fail
  refine (CE.out R _ _ _ HR14.out HR2.out).mono ?_
  rintro e w5 ⟨rfl, hb5⟩
  have HB5 := Lib.hid (HB4.out.trans (hb5.mono HB4.out.size))
  have HW5 := Lib.hid (HW4.out.trans (hb5.mono HW4.out.size))
  clear hb5
  go_wp2_with fail
  refine (CE.out L _ _ _ (RAr.out.below HW5.out) (HV0.out _ HB5.out).1).mono ?_
  rintro e w6 ⟨rfl, hb6⟩
  have HB6 := Lib.hid (HB5.out.trans (hb6.mono HB5.out.size))
  have HW6 := Lib.hid (HW5.out.trans (hb6.mono HW5.out.size))
  clear hb6
  obtain ⟨_, _, _, _, _, x5, x6, _, _⟩ := KX.out _ HB6.out
  go_wp2_with fail
  refine (CE.out N _ _ _ (RBr.out.below HW6.out) (HV0.out _ HB6.out).2).mono ?_
  rintro e w7 ⟨rfl, hb7⟩
  have HB7 := Lib.hid (HB6.out.trans (hb7.mono HB6.out.size))
  have HX7 : Hid (Below w.heap.size w w7) := HB0.out.trans (HB7.out.mono HB0.out.size)
  clear hb7 x5 x6
  go_wp2_with fail
  refine (CW.out _ HX7.out).mono ?_
  rintro e w8 ⟨rfl, hb8⟩
  have hF : Below w.heap.size w w8 := HX7.out.trans (hb8.mono HX7.out.size)
  clear hb8
  go_wp2
  go_ret
  exact ⟨ret_bool rfl, hF⟩


/-- Whether tokens are what a law looks at. -/
def thinF (ls : List Lx) : Bool := decide (ls.length ≤ 1000) && ls.all fun y => decide (y.2.1.length ≤ 3000)

set_option maxRecDepth 100000 in
set_option maxHeartbeats 2000000 in
theorem thin_any (v : Value) (ls : List Lx) (w : World) (hv : ReadsLx w v ls) :
    Calls Tryd.prog 4 #[v] w fun e w' => e = .returned (.bool (thinF ls)) ∧ w = w' := by
  have HA := Lib.hid (reads_at hv)
  obtain ⟨p, cap, rfl, hl, j2⟩ := hv
  obtain ⟨n, hn⟩ : ∃ n, n = ls.length := ⟨_, rfl⟩
  have HT : Hid (n ≤ 1000 → thinF ls = ls.all fun y => decide (y.2.1.length ≤ 3000)) := fun h => by
    unfold thinF; rw [decide_eq_true (by omega)]; rfl
  have HT2 : Hid (1000 < n → thinF ls = false) := fun h => by
    unfold thinF; rw [decide_eq_false (by omega)]; rfl
  have HN := Lib.hid hn
  rw [← hn] at hl ⊢
  clear hn j2
  by_cases h : 1000 < n
  · have HR := Lib.hid (HT2.out h)
    clear HT HT2 HA
    go_enter Tryd.func4, Tryd.ntmps4
    go_wp2
    go_ret
    exact ⟨ret_bool (by rw [HR.out]), rfl⟩
  · have hn1 : n ≤ 1000 := by omega
    have HR := Lib.hid (HT.out hn1)
    clear HT HT2
    go_enter Tryd.func4, Tryd.ntmps4
    go_wp2
    go_loop [3] (fun i => ∃ k : Nat, k ≤ n ∧ i = .int .i64 k ∧ Hid ((ls.drop k).all (fun y => decide (y.2.1.length ≤ 3000)) = thinF ls)) (fun i => n - (intOf i).toNat)
    case atStart => exact ⟨0, Nat.zero_le _, rfl, by show _ = _; rw [HR.out]; rfl⟩
    case round =>
      obtain ⟨k, hk, rfl, hpre⟩ := hrel
      by_cases hlt : k < n
      · have hkl : k < ls.length := by have := HN.out; omega
        obtain ⟨b, off, cap', hsl, c1, c2, c3⟩ := HA.out k hkl
        simp only [Value.slice.injEq] at hsl
        obtain ⟨rfl, hu1, hu2⟩ := hsl
        clear hu1 hu2
        have hd : ls.drop k = ls.getD k (0, [], 0) :: ls.drop (k + 1) := by
          rw [List.drop_eq_getElem_cons hkl]; simp [List.getD_eq_getElem?_getD, hkl]
        obtain ⟨x, hx⟩ : ∃ x, x = ls.getD k (0, [], 0) := ⟨_, rfl⟩
        rw [← hx] at c1 c2 c3 hd
        obtain ⟨x1, x2, x3⟩ := x
        have CS : Hid (∀ W, Calls Tryd.prog 5 #[.string (mkS x2)] W fun e w' => e = .returned (.bool (decide (x2.length ≤ 3000))) ∧ W = w') := fun W => short_of x2 W
        have hstep := hpre.out
        rw [hd, List.all_cons] at hstep
        simp only at hstep
        have hkI : (k : Int) < (n : Int) := by omega
        by_cases hs : x2.length ≤ 3000
        · rw [decide_eq_true hs] at CS hstep
          have H : Hid ((ls.drop (k + 1)).all (fun y => decide (y.2.1.length ≤ 3000)) = thinF ls) := by show _ = _; rw [← hstep]; rfl
          clear hstep hd hx hpre hs hkl
          go_wp2_with fail
          refine (CS.out _).mono ?_
          rintro e w' ⟨rfl, rfl⟩
          go_wp2
          go_round
          case rel => exact ⟨k + 1, by omega, by go_num, H⟩
          case measure => simp [intOf]; omega
        · rw [decide_eq_false hs] at CS hstep
          have H : Hid (thinF ls = false) := by show _ = _; rw [← hstep]; rfl
          clear hstep hd hx hpre hs hkl
          go_wp2_with fail
          refine (CS.out _).mono ?_
          rintro e w' ⟨rfl, rfl⟩
          go_wp2
          go_ret
          exact ⟨ret_bool (by rw [H.out]), rfl⟩
      · have H : Hid (thinF ls = true) := by
          show _ = _; rw [← hpre.out, List.drop_of_length_le (by have := HN.out; omega)]; rfl
        clear hpre
        go_wp2
        go_ret
        exact ⟨ret_bool (by rw [H.out]), rfl⟩

set_option maxRecDepth 100000 in
theorem thin_far (q : Option Addr) (len cap : Nat) (w : World) (h : 1000 < len) :
    Calls Tryd.prog 4 #[.slice q len cap] w fun e w' => e = .returned (.bool false) ∧ w = w' := by
  have hb : decide ((1000 : Int) < (len : Int)) = true := decide_eq_true (by omega)
  go_enter Tryd.func4, Tryd.ntmps4
  go_wp2
  go_ret
  exact ⟨ret_bool rfl, rfl⟩

/-- thin at a slice that came in: what it says, and the tokens where it says yes. -/
theorem thin_gen (q : Option Addr) (len cap : Nat) (w : World) (h : len ≤ 100000000000 → ∃ ls : List Lx, ls.length = len ∧ ReadsLx w (.slice q len cap) ls) :
    Hid (∀ W, Below w.heap.size w W → Calls Tryd.prog 4 #[.slice q len cap] W fun e w' => e = .returned (.bool false) ∧ W = w') ∨
    ((∃ ls : List Lx, len = ls.length ∧ ReadsLx w (.slice q len cap) ls) ∧ len ≤ 1000 ∧ Hid (∀ W, Below w.heap.size w W → Calls Tryd.prog 4 #[.slice q len cap] W fun e w' => e = .returned (.bool true) ∧ W = w')) := by
  by_cases hl : len ≤ 100000000000
  · obtain ⟨ls, h1, hr⟩ := h hl
    cases ht : thinF ls with
    | false => exact .inl fun W hW => by have := thin_any _ ls W (hr.below hW); rw [ht] at this; exact this
    | true =>
      refine .inr ⟨⟨ls, h1.symm, hr⟩, ?_, fun W hW => by have := thin_any _ ls W (hr.below hW); rw [ht] at this; exact this⟩
      unfold thinF at ht; rw [Bool.and_eq_true, decide_eq_true_eq] at ht; omega
  · exact .inl fun W _ => thin_far q len cap W (by omega)

set_option maxRecDepth 100000 in
set_option maxHeartbeats 2000000 in
theorem patches_no1 (p pu : Option Addr) (n cap m cu : Nat) (F T H K : Int) (put : List UInt8) (w : World) (he : ErrOk w)
    (CT1 : Hid (∀ W, Below w.heap.size w W → Calls Tryd.prog 4 #[.slice p n cap] W fun e w' => e = .returned (.bool false) ∧ W = w')) :
    Calls Tryd.prog 3 #[.slice p n cap, .agg #[.int .i64 F, .int .i64 T, .string (mkS put)], .agg #[.int .i64 H, .int .i64 K, .slice pu m cu]] w fun e w' => e = .returned (.bool true) ∧ Below w.heap.size w w' := by
  have CW : Hid (∀ W, Below w.heap.size w W → Calls Tryd.prog 6 #[] W fun e w' => e = .returned (.bool true) ∧ Below W.heap.size W w') := fun W hW => awake_any W (he.below hW)
  have HB0 : Hid (Below w.heap.size w ((w.alloc (.cells #[.int .i64 F, .int .i64 T, .string (mkS put)] 24)).alloc (.cells #[.int .i64 H, .int .i64 K, .slice pu m cu] 26))) := ((Below.refl _ _).alloc (Nat.le_refl _) _).alloc (by simp) _
  clear he
  go_enter Tryd.func3, Tryd.ntmps3
  go_wp2_with fail
  refine (CT1.out _ HB0.out).mono ?_
  rintro e w' ⟨rfl, rfl⟩
  go_wp2_with fail
  refine (CW.out _ HB0.out).mono ?_
  rintro e w5 ⟨rfl, hb5⟩
  have hF : Below w.heap.size w w5 := HB0.out.trans (hb5.mono HB0.out.size)
  clear hb5
  go_wp2
  go_ret
  exact ⟨ret_bool rfl, hF⟩

set_option maxRecDepth 100000 in
set_option maxHeartbeats 2000000 in
theorem patches_no2 (p pu : Option Addr) (n cap m cu : Nat) (F T H K : Int) (put : List UInt8) (w : World) (he : ErrOk w) (hput : ¬ put.length ≤ 3000)
    (CT1 : Hid (∀ W, Below w.heap.size w W → Calls Tryd.prog 4 #[.slice p n cap] W fun e w' => e = .returned (.bool true) ∧ W = w')) :
    Calls Tryd.prog 3 #[.slice p n cap, .agg #[.int .i64 F, .int .i64 T, .string (mkS put)], .agg #[.int .i64 H, .int .i64 K, .slice pu m cu]] w fun e w' => e = .returned (.bool true) ∧ Below w.heap.size w w' := by
  have CW : Hid (∀ W, Below w.heap.size w W → Calls Tryd.prog 6 #[] W fun e w' => e = .returned (.bool true) ∧ Below W.heap.size W w') := fun W hW => awake_any W (he.below hW)
  have CS : Hid (∀ W, Calls Tryd.prog 5 #[.string (mkS put)] W fun e w' => e = .returned (.bool false) ∧ W = w') := fun W => by
    have := short_of put W; rw [decide_eq_false hput] at this; exact this
  have HB0 : Hid (Below w.heap.size w ((w.alloc (.cells #[.int .i64 F, .int .i64 T, .string (mkS put)] 24)).alloc (.cells #[.int .i64 H, .int .i64 K, .slice pu m cu] 26))) := ((Below.refl _ _).alloc (Nat.le_refl _) _).alloc (by simp) _
  clear he hput
  go_enter Tryd.func3, Tryd.ntmps3
  go_wp2_with fail
  refine (CT1.out _ HB0.out).mono ?_
  rintro e w' ⟨rfl, rfl⟩
  go_wp2_with fail
  refine (CS.out _).mono ?_
  rintro e w' ⟨rfl, rfl⟩
  go_wp2_with fail
  refine (CW.out _ HB0.out).mono ?_
  rintro e w5 ⟨rfl, hb5⟩
  have hF : Below w.heap.size w w5 := HB0.out.trans (hb5.mono HB0.out.size)
  clear hb5
  go_wp2
  go_ret
  exact ⟨ret_bool rfl, hF⟩

set_option maxRecDepth 100000 in
set_option maxHeartbeats 2000000 in
theorem patches_no3 (p pu : Option Addr) (n cap m cu : Nat) (F T H K : Int) (put : List UInt8) (w : World) (he : ErrOk w) (hput : put.length ≤ 3000)
    (CT1 : Hid (∀ W, Below w.heap.size w W → Calls Tryd.prog 4 #[.slice p n cap] W fun e w' => e = .returned (.bool true) ∧ W = w'))
    (CT2 : Hid (∀ W, Below w.heap.size w W → Calls Tryd.prog 4 #[.slice pu m cu] W fun e w' => e = .returned (.bool false) ∧ W = w')) :
    Calls Tryd.prog 3 #[.slice p n cap, .agg #[.int .i64 F, .int .i64 T, .string (mkS put)], .agg #[.int .i64 H, .int .i64 K, .slice pu m cu]] w fun e w' => e = .returned (.bool true) ∧ Below w.heap.size w w' := by
  have CW : Hid (∀ W, Below w.heap.size w W → Calls Tryd.prog 6 #[] W fun e w' => e = .returned (.bool true) ∧ Below W.heap.size W w') := fun W hW => awake_any W (he.below hW)
  have CS : Hid (∀ W, Calls Tryd.prog 5 #[.string (mkS put)] W fun e w' => e = .returned (.bool true) ∧ W = w') := fun W => short_yes put W hput
  have HB0 : Hid (Below w.heap.size w ((w.alloc (.cells #[.int .i64 F, .int .i64 T, .string (mkS put)] 24)).alloc (.cells #[.int .i64 H, .int .i64 K, .slice pu m cu] 26))) := ((Below.refl _ _).alloc (Nat.le_refl _) _).alloc (by simp) _
  clear he hput
  go_enter Tryd.func3, Tryd.ntmps3
  go_wp2_with fail
  refine (CT1.out _ HB0.out).mono ?_
  rintro e w' ⟨rfl, rfl⟩
  go_wp2_with fail
  refine (CS.out _).mono ?_
  rintro e w' ⟨rfl, rfl⟩
  go_wp2_with fail
  refine (CT2.out _ HB0.out).mono ?_
  rintro e w' ⟨rfl, rfl⟩
  go_wp2_with fail
  refine (CW.out _ HB0.out).mono ?_
  rintro e w5 ⟨rfl, hb5⟩
  have hF : Below w.heap.size w w5 := HB0.out.trans (hb5.mono HB0.out.size)
  clear hb5
  go_wp2
  go_ret
  exact ⟨ret_bool rfl, hF⟩

theorem patches_all (q : Option Addr) (len cap : Nat) (x : Ed) (H K : Int) (q1 : Option Addr) (len1 cap1 : Nat) (w : World)
    (hc : len ≤ cap ∧ (q = none → cap = 0)) (h0 : len ≤ 100000000000 → ∃ ls : List Lx, ls.length = len ∧ ReadsLx w (.slice q len cap) ls) (hput : x.2.2.length ≤ 140737488355328)
    (hH : (Lit.int .i64 H).wf = true) (h1 : len1 ≤ 100000000000 → ∃ ls : List Lx, ls.length = len1 ∧ ReadsLx w (.slice q1 len1 cap1) ls) (he : ErrOk w) :
    Calls Tryd.prog 3 #[.slice q len cap, edV x, .agg #[.int .i64 H, .int .i64 K, .slice q1 len1 cap1]] w fun e w' => e = .returned (.bool true) ∧ Below w.heap.size w w' := by
  obtain ⟨F, T, put⟩ := x
  unfold edV
  rcases thin_gen q len cap w h0 with t1 | ⟨⟨L, hL, rL⟩, nL, t1⟩
  · exact patches_no1 q q1 len cap len1 cap1 F T H K put w he t1
  · by_cases hp : put.length ≤ 3000
    · rcases thin_gen q1 len1 cap1 w h1 with t2 | ⟨⟨N, hN, rN⟩, nN, t2⟩
      · exact patches_no3 q q1 len cap len1 cap1 F T H K put w he hp t1 t2
      · have hb := bounds_i64 hH
        exact patches_in L N len len1 cap cap1 q q1 F T H K put w hL hN hc.1 (by omega) hc.2 rL rN nL nN hp he t1 t2
    · exact patches_no2 q q1 len cap len1 cap1 F T H K put w he hp t1

section
variable {Hc : Type} {enc : TypeId × Value → Hc}
/-- A slice of tokens that came in: its length against its cap. -/
theorem open_toks_cap {W : World} {base : Nat} {sp : Nat → Bool} {held : Bool} {q : Option Addr} {len cap : Nat} {d : DataW Hc} {ps : List MemPlace}
    (h : DataW.Trod enc Tryd.prog W base sp held 22 (.slice q len cap) d ps) : len ≤ cap ∧ (q = none → cap = 0) := by
  obtain ⟨fuel, hf⟩ := h
  have hf' : DataW.trod enc Tryd.prog W base sp held fuel 22 [.slice q len cap] = some (d, ps) := by simpa [Value.cells] using hf
  rcases open_slice Tryd.underlying22 hf' with ⟨h1, _⟩ | ⟨a, len', cap', m, n, D, Pl, h1, hb, hl, hm, hmm, hx, hel⟩
  · simp only [List.cons.injEq, Value.slice.injEq, and_true] at h1
    obtain ⟨rfl, rfl, rfl⟩ := h1
    exact ⟨Nat.le_refl _, fun _ => rfl⟩
  · simp only [List.cons.injEq, Value.slice.injEq, and_true] at h1
    obtain ⟨rfl, rfl, rfl⟩ := h1
    exact ⟨hl, fun h => by cases h⟩
end
end Go.Proofs.YtlhbfgkcalalkaaDoor
