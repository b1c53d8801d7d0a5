/- The contract of primes. -/
import Derived.Test.YtfhnigpjmljhbaaDoorOrAf
set_option linter.unusedVariables false
set_option linter.unusedSimpArgs false
namespace Go.Proofs.YtfhnigpjmljhbaaDoor.Or
open Go.RowKit Go.Shelf
attribute [local go_sem] Oper.semAt_some

/-- The primes, when some pairs were looked at; the primes as a group. -/
def primU (t : Tab) (l : List (Nat × Nat)) : Nat := grp (fun i => (bel t.R 0 i && i != 0) && !l.any fun p => joinedBy t.R t.n i p.1 p.2) t.n
def primG (t : Tab) : Nat := grp (primeO t.R t.n) t.n
theorem join_lt {R : Nat → Nat → Bool} {n a b j : Nat} (h : joinO R n a b = some j) : j < n := by
  unfold joinO leastF at h
  have := List.mem_of_find?_eq_some h
  exact (mem_ups.1 this).1
theorem primU_end {t : Tab} (hL : Lat t.R t.n t.wr) : primU t (pairsL t.n) = primG t := grp_congr fun i hi => by
  unfold primeO
  rw [hL.base i hi, Bool.true_and, decide_eq_true hi, Bool.and_true]
  congr 1
  rw [Bool.eq_iff_iff, bne_iff_ne, decide_eq_true_eq]; omega
theorem primU_skip (t : Tab) (l : List (Nat × Nat)) (x y j : Nat) (hj : joinO t.R t.n x y = some j) (h : j = x ∨ j = y) : primU t (l ++ [(x, y)]) = primU t l := grp_congr fun i _ => by
  have : joinedBy t.R t.n i x y = false := by
    unfold joinedBy; rw [hj]
    by_cases e : j = i
    · subst e; rcases h with h | h <;> simp [h]
    · have : (some j == some i) = false := by rw [beq_eq_false_iff_ne]; simpa using e
      rw [this]; rfl
  simp [this]
theorem primU_take (t : Tab) (hn : t.n ≤ 16) (l : List (Nat × Nat)) (x y j : Nat) (hjn : j < t.n) (hj : joinO t.R t.n x y = some j) (h1 : j ≠ x) (h2 : j ≠ y) : primU t l &&& (65535 - 2 ^ j) = primU t (l ++ [(x, y)]) := by
  unfold primU
  rw [grp_one hjn, grp_andNot _ _ hn]
  refine grp_congr fun i _ => ?_
  have : joinedBy t.R t.n i x y = (i == j) := by
    unfold joinedBy; rw [hj]
    by_cases e : i = j
    · subst e; simp [h1, h2]
    · have e1 : (some j == some i) = false := by rw [beq_eq_false_iff_ne]; intro h; exact e (Option.some.inj h).symm
      have e2 : (i == j) = false := by rw [beq_eq_false_iff_ne]; exact e
      rw [e1, e2]; rfl
  simp only [List.any_append, List.any_cons, List.any_nil, Bool.or_false, this]
  cases (bel t.R 0 i && i != 0) <;> cases (l.any fun p => joinedBy t.R t.n i p.1 p.2) <;> cases (i == j) <;> rfl

set_option maxRecDepth 100000 in
set_option maxHeartbeats 4000000 in
theorem primes_any (b : Nat) (t : Tab) (w : World) (hW : WalkedAt w b t) (hL : TabOk w) (hT : Lat t.R t.n t.wr) (hA : Acy t.R t.n) :
    Calls Tryd.prog 109 #[.pointer (some ⟨b, 0, none⟩)] w fun e w' => e = .returned (.int .u16 (primG t : Nat)) ∧ Below w.heap.size w w' := by
  obtain ⟨N, hN⟩ : ∃ n : Nat, 8 ≤ n := ⟨8, Nat.le_refl _⟩
  refine (callsIn_wide (n := N)).1 ?_
  have h1n : 1 ≤ N := by omega
  have h1n2 : 1 ≤ N - 1 - 1 := by omega
  obtain ⟨n1, n2⟩ := hW.n12
  have lb := hW.lt
  have HWW := Lib.hid hW; have HLL := Lib.hid hL; have HA := Lib.hid hA; have HLT := Lib.hid hT
  obtain ⟨m, hm⟩ : ∃ m, m = w.heap.size := ⟨_, rfl⟩
  have HM := Lib.hid hm
  obtain ⟨W2, hW2⟩ : ∃ W2, W2 = (w.alloc (Obj.cells #[Value.pointer (some { block := b, off := 0 })] 68)).alloc (Obj.cells #[Value.int IntKind.i64 0] 3) := ⟨_, rfl⟩
  have b2 : Below w.heap.size w W2 := by rw [hW2]; exact ((Below.refl _ _).alloc (Nat.le_refl _) _).alloc (by simp) _
  have p2 : W2.cell? ⟨m, 0, none⟩ = some (.pointer (some ⟨b, 0, none⟩)) := by rw [hW2, hm]; simp [go_sem]
  have s2 : RdI W2 (.slice (some ⟨w.heap.size + 1, 0, none⟩) 1 1) (ints [0]) := rdI_one (by rw [hW2]; simp [go_sem])
  have CR := Lib.hid (above_any b t _ [0] W2 (hW.below b2) s2 (by intro x hx; simp at hx; omega))
  obtain ⟨G, hG⟩ : ∃ G, G = upsG t [0] := ⟨_, rfl⟩
  rw [← hG] at CR
  have CO : Hid (∀ W, Calls Tryd.prog 82 #[.int .i64 0] W fun e w' => e = .returned (.int .u16 1) ∧ W = w') := fun W => by have := one_any 0 W (by omega); simpa using this
  have hG16 : G < 65536 := by rw [hG]; exact ups_lt t _ n2
  have e0 : bits .andNot .u16 (G : Int) 1 = ((primU t [] : Nat) : Int) := by
    have := bits16_andNot G 1 hG16 (by omega)
    rw [show ((1 : Nat) : Int) = 1 from rfl] at this
    rw [this, hG]
    have h1 : upsG t [0] &&& (65535 - 2 ^ 0) = primU t [] := by
      unfold upsG primU
      rw [grp_one (show 0 < t.n by omega), grp_andNot _ _ (by omega)]
      exact grp_congr fun i _ => by
        simp only [List.all_cons, List.all_nil, Bool.and_true, List.any_nil, Bool.not_false]
        show _ = (bel t.R 0 i && !(i == 0))
        cases bel t.R 0 i <;> rfl
    rw [show (1 : Nat) = 2 ^ 0 from rfl, h1]
  obtain ⟨P0, hP0⟩ : ∃ P, P = primU t [] := ⟨_, rfl⟩
  rw [← hP0] at e0
  have HP0 := Lib.hid hP0
  have HW2 := Lib.hid hW2; have HB2 := Lib.hid b2
  clear hW hL hA hT hG hW2 b2 s2 hP0 hG16
  refine callsIn_of_wp_marks Tryd.func109 rfl trivial ?_ rfl
  simp only [Tryd.ntmps109, List.size_toArray, List.length_cons, List.length_nil, Nat.reduceAdd, Nat.reduceSub, Array.replicate_succ, Array.replicate_zero, List.push_toArray, List.append_toArray, List.nil_append, List.cons_append]
  gi_wp2_with fail
  refine ⟨trivial, ?_⟩
  rw [← HW2.out]
  refine (callsIn_wide.2 CR.out).mono ?_
  rintro e w1 ⟨rfl, hb1⟩
  have p1 := (hb1.cell (cell_lt p2)).trans p2
  have hbw1 : Below w.heap.size w w1 := HB2.out.trans (hb1.mono HB2.out.size)
  have lm1 : m < w1.heap.size := cell_lt p1
  have HB1 := Lib.hid hbw1
  rw [HM.out] at p1 lm1
  clear hb1 p2 hbw1
  gi_wp2_with (first | (refine ⟨trivial, ?_⟩; gi_at_call 82; refine (callsIn_wide.2 (CO.out _)).mono ?_; rintro e w' ⟨rfl, rfl⟩) | (refine ⟨trivial, ?_⟩; gi_at_call 94; refine (callsIn_wide.2 (pairs_any _ _)).mono ?_; rintro e w' ⟨rfl, rfl⟩))
  obtain ⟨q, hq⟩ : ∃ q, q = w1.heap.size := ⟨_, rfl⟩
  obtain ⟨W5, hW5⟩ : ∃ W5, W5 = (w1.alloc (Obj.cells #[Value.int IntKind.u16 ↑P0] 72)).alloc (Obj.cells #[Value.pointer (some { block := b, off := 0 })] 68) := ⟨_, rfl⟩
  rw [← hW5, ← hq]
  have b5' : Below w1.heap.size w1 W5 := by rw [hW5]; exact ((Below.refl _ _).alloc (Nat.le_refl _) _).alloc (by simp) _
  have b5 := HB1.out.trans (b5'.mono HB1.out.size)
  have z5 : W5.heap.size = q + 2 := by rw [hW5, hq]; simp
  have o5 : W5.cell? ⟨q, 0, none⟩ = some (.int .u16 P0) := by rw [hW5, hq]; simp [go_sem]
  have f5 : W5.frozen? ⟨q, 0, none⟩ = false := by rw [hW5, hq]; simp [go_sem]
  have E5 : W5.cell? ⟨q + 1, 0, none⟩ = some (.pointer (some ⟨b, 0, none⟩)) := by rw [hW5, hq]; simp [go_sem]
  have p5 := (b5'.cell (cell_lt p1)).trans p1
  have hqm : w.heap.size < q := by rw [hq]; exact lm1
  have Z5 := Lib.hid z5
  clear hW5 z5 hq p1 lm1 b5' HB1 hm
  refine range_till (F := Fence.wide) (gf := 123) (lb := #[.pointer (some ⟨q + 1, 0, none⟩)]) (n := N) rfl (by omega) rfl trivial (enters_of Tryd.func123 (by kernel_rfl) rfl)
    (pairs_iter (N - 1) (by omega) b (q + 1) t W5 (HWW.out.below b5) E5) (Below.refl _ _) (fun _ => rfl)
    (fun k => k = q + 2 ∨ k = q + 3) ?hZ ?hZ0 ?hZ1 (fun k => (k = q + 1 ∨ k = b) ∨ k = q + 2 ∨ k = q + 3) ?hY ?hY0 ?hY1
    (fun pre V => (V.cell? ⟨w.heap.size, 0, none⟩ = some (.pointer (some ⟨b, 0, none⟩)) ∧ V.cell? ⟨q, 0, none⟩ = some (.int .u16 (primU t pre : Nat)) ∧ V.frozen? ⟨q, 0, none⟩ = false) ∧ Below w.heap.size w V) ?hI
    (fun _ _ _ => False) (fun _ _ _ _ h _ => h) ⟨⟨p5, by rw [← HP0.out]; exact o5, f5⟩, b5⟩
    (fun pre x a' V => ((V.cell? ⟨w.heap.size, 0, none⟩ = some (.pointer (some ⟨b, 0, none⟩)) ∧ V.cell? ⟨q, 0, none⟩ = some (.int .u16 (primU t pre : Nat)) ∧ V.frozen? ⟨q, 0, none⟩ = false) ∧ Below w.heap.size w V) ∧
      ∃ v2 v8 v9 v10 v11 v12 v13 v14, a' = { tmps := #[.pointer (some ⟨b, 0, none⟩), .pointer (some ⟨w.heap.size, 0, none⟩), v2, .pointer (some ⟨q, 0, none⟩), .int .i64 x.1, .int .i64 x.2, undef, undef, v8, v9, v10, v11, v12, v13, v14, .int .i64 x.1, .int .i64 x.2, undef, undef, undef, undef, undef, undef, undef, undef, undef, undef, undef, undef, undef, undef, undef, undef, undef, undef, undef, undef], defers := [] })
    ?hAx ?assign ?body ?hYb ?done ?stop
  case hZ => rintro W1 h1 k hk; exact hk.elim
  case hZ0 => have := Z5.out; omega
  case hZ1 => have := Z5.out; omega
  case hY => rintro W1 h1 k hk; have := Z5.out; have hk' : k = q + 1 ∨ k = b := hk; exact ⟨.inl hk', by omega⟩
  case hY0 => have := Z5.out; omega
  case hY1 => have := Z5.out; omega
  case hYb => rintro W1 h1 k hk; have := Z5.out; rcases hk with hk | hk | hk
              · exact .inl hk
              · exact .inr (by omega)
              · exact .inr (by omega)
  case hI =>
    rintro pre X Y ⟨⟨a1, a2, a3⟩, a4⟩ hd
    exact ⟨⟨cell_diff a1 hd (by omega), cell_diff a2 hd (by omega), frozen_diff a2 a3 hd (by omega)⟩, a4.trans (hd.below a4.size (by omega))⟩
  case hAx =>
    rintro pre x a' X Y ⟨⟨⟨a1, a2, a3⟩, a4⟩, ha⟩ hd
    exact ⟨⟨⟨cell_diff a1 hd (by omega), cell_diff a2 hd (by omega), frozen_diff a2 a3 hd (by omega)⟩, a4.trans (hd.below a4.size (by omega))⟩, ha⟩
  case assign =>
    rintro l' pre x V K hpre hh hbnd hK
    gi_wp2
    exact hK _ _ (Keep.refl _ _) ⟨hh, _, _, _, _, _, _, _, _, rfl⟩
  case body =>
    rintro l' pre ⟨x, y⟩ a' V hpre ⟨⟨⟨a1, a2, a3⟩, a4⟩, v2, v8, v9, v10, v11, v12, v13, v14, rfl⟩ hbnd
    have hxp : (x, y) ∈ pairsL t.n := by obtain ⟨r, hr⟩ := hpre; rw [← hr]; simp
    obtain ⟨hxy, hyn⟩ := mem_pairsL.1 hxp
    have CJ := Lib.hid (join_any b t x y V (HWW.out.below a4) (HLL.out.below a4) (by omega) hyn)
    have hjs := HLT.out.join x y hxy hyn
    obtain ⟨J, hJ⟩ : ∃ J, J = joinO t.R t.n x y := ⟨_, rfl⟩
    rw [← hJ] at CJ hjs
    have HA4 := Lib.hid a4
    clear hxp a4 hpre hbnd
    simp only
    cases J with
    | none => cases hjs
    | some j =>
      simp only [Option.getD_some, Option.isSome_some] at CJ
      have hjn : j < t.n := join_lt hJ.symm
      obtain ⟨U, hU⟩ : ∃ U, U = primU t pre := ⟨_, rfl⟩
      rw [← hU] at a2
      have hmV : w.heap.size < V.heap.size := cell_lt a1
      have hqV : q < V.heap.size := cell_lt a2
      by_cases h1 : j = x
      · have g1 : ((j : Int) != (x : Int)) = false := by rw [bne_eq_false_iff_eq]; omega
        have HN : Hid (primU t (pre ++ [(x, y)]) = U) := by show _ = _; rw [hU]; exact primU_skip t pre x y j hJ.symm (.inl h1)
        clear h1 hjs hJ hU
        gi_wp2_with (refine ⟨trivial, ?_⟩; gi_at_call 64; refine (CallsIn.inRound _ (callsIn_wide.2 CJ.out)).mono ?_; rintro e w' ⟨rfl, hbw⟩)
        exact ⟨Keep.of_below hbw, ⟨(hbw.cell hmV).trans a1, by rw [HN.out]; exact (hbw.cell hqV).trans a2, (hbw.frozen (p := ⟨q, 0, none⟩) hqV).trans a3⟩, HA4.out.trans (hbw.mono HA4.out.size)⟩
      · have g1 : ((j : Int) != (x : Int)) = true := by rw [bne_iff_ne]; omega
        by_cases h2 : j = y
        · have g2 : ((j : Int) != (y : Int)) = false := by rw [bne_eq_false_iff_eq]; omega
          have HN : Hid (primU t (pre ++ [(x, y)]) = U) := by show _ = _; rw [hU]; exact primU_skip t pre x y j hJ.symm (.inr h2)
          clear h1 h2 hjs hJ hU
          gi_wp2_with (refine ⟨trivial, ?_⟩; gi_at_call 64; refine (CallsIn.inRound _ (callsIn_wide.2 CJ.out)).mono ?_; rintro e w' ⟨rfl, hbw⟩)
          exact ⟨Keep.of_below hbw, ⟨(hbw.cell hmV).trans a1, by rw [HN.out]; exact (hbw.cell hqV).trans a2, (hbw.frozen (p := ⟨q, 0, none⟩) hqV).trans a3⟩, HA4.out.trans (hbw.mono HA4.out.size)⟩
        · have g2 : ((j : Int) != (y : Int)) = true := by rw [bne_iff_ne]; omega
          obtain ⟨P, hP⟩ : ∃ P, P = 2 ^ j := ⟨_, rfl⟩
          have hP16 : P < 65536 := by rw [hP]; exact pow_lt16 (by omega)
          have hU16 : U < 65536 := by rw [hU]; exact grp_lt16 _ (by omega)
          have e1 := bits16_andNot U P hU16 hP16
          obtain ⟨D, hD⟩ : ∃ D, D = U &&& (65535 - P) := ⟨_, rfl⟩
          rw [← hD] at e1
          have HN : Hid (D = primU t (pre ++ [(x, y)])) := by show _ = _; rw [hD, hU, hP]; exact primU_take t (by omega) pre x y j hjn hJ.symm h1 h2
          have COJ : Hid (∀ W m, CallsIn (Fence.wide.inRound l') m Tryd.prog 82 #[.int .i64 j] W fun e w' => e = .returned (.int .u16 (P : Nat)) ∧ W = w') := fun W m => by rw [hP]; exact CallsIn.inRound _ (callsIn_wide.2 (one_any j W (by omega)))
          clear h1 h2 hjs hJ hU hP hP16 hU16 hD
          gi_wp2_with fail
          refine ⟨trivial, ?_⟩
          refine (CallsIn.inRound _ (callsIn_wide.2 CJ.out)).mono ?_
          rintro e w2 ⟨rfl, hbw⟩
          have c1 := (hbw.cell hmV).trans a1
          have c2 := (hbw.cell hqV).trans a2
          have c3 := (hbw.frozen (p := ⟨q, 0, none⟩) hqV).trans a3
          have HBW := Lib.hid hbw
          have HPw : Hid (BxP w w.heap.size q b (.int .u16 U) w2) := ⟨⟨c1, c2, c3⟩, HA4.out.trans (hbw.mono HA4.out.size)⟩
          have HK : Hid (Keep (fun k => (k = q + 1 ∨ k = b) ∨ k = q + 2 ∨ k = q + 3) V w2) := Keep.of_below hbw
          clear hbw a1 a2 a3
          gi_wp2
          gi_region_with (refine ⟨trivial, ?_⟩; gi_at_call 82; refine (COJ.out _ _).mono ?_; rintro e w' ⟨rfl, rfl⟩)
          all_goals
            clear c1 c2 c3
            refine ⟨?_, (show BxP w w.heap.size q b (.int .u16 (primU t (pre ++ [(x, y)]) : Nat)) _ from ?_)⟩
            · repeat (first | exact HK.out | refine Keep.drew ?_ | refine Keep.setCell ?_ (by rintro ((h | h) | h | h) <;> simp at h <;> omega) _)
            · rw [← HN.out]
              repeat (first | exact HPw.out | refine BxP.drew ?_ | refine BxP.set (x := .int .u16 U) ?_ (by omega) (by omega) _)
  case done =>
    rintro V ⟨⟨a1, a2, a3⟩, a4⟩ hK
    rw [primU_end HLT.out] at a2
    gi_wp2
    have z := Z5.out
    refine ⟨by simp, .inl ⟨_, _, rfl, run_takeDeferred hK, ?_⟩⟩
    have hd := (Diff.refl (fun k => k = W5.heap.size) V).putObj (l := W5.heap.size) rfl (Obj.deferred none)
    exact ⟨.int .u16 (primG t : Nat), by simp [results, Tryd.results109, go_sem], rfl, a4.trans (hd.below a4.size (fun j hj hm => by omega))⟩
  case stop => rintro c pre x V hpre h; exact h.elim
end Go.Proofs.YtfhnigpjmljhbaaDoor.Or
