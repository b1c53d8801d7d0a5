/- The contract of height. -/
import Derived.Test.YtfhnigpjmljhbaaDoorOrAc
set_option linter.unusedVariables false
set_option linter.unusedSimpArgs false
namespace Go.Proofs.YtfhnigpjmljhbaaDoor.Or
open Go.RowKit Go.Shelf
attribute [local go_sem] Oper.semAt_some

theorem hgtC_le {R : Nat → Nat → Bool} {n : Nat} (h : Acy R n) : ∀ (f a : Nat), hgtC R n f a ≤ cntU R n a
  | 0, a => Nat.zero_le _
  | f + 1, a => by
    rw [hgtC]
    refine maxL_le fun x hx => ?_
    rw [List.mem_map] at hx
    obtain ⟨b, hb, rfl⟩ := hx
    have hab : R a b = true := by have := (List.mem_filter.1 hb).2; unfold cov at this; rw [Bool.and_eq_true] at this; exact this.1
    have h1 := cnt_less h hab
    have h2 := hgtC_le h f b
    omega
theorem maxL_snoc (l : List Nat) (x : Nat) : maxL (l ++ [x]) = max (maxL l) x := by
  unfold maxL; rw [List.foldl_append]; rfl

set_option maxRecDepth 100000 in
set_option maxHeartbeats 4000000 in
theorem height_all (b : Nat) (t : Tab) (hA : Acy t.R t.n) : ∀ (f a : Nat) (w : World), cntU t.R t.n a < f → a < t.n → WalkedAt w b t → TabOk w →
    Calls Tryd.prog 77 #[.pointer (some ⟨b, 0, none⟩), .int .i64 a] w fun e w' => e = .returned (.int .i64 (hgtC t.R t.n f a : Nat)) ∧ Below w.heap.size w w' := by
  intro f
  induction f with
  | zero => intro a w h; omega
  | succ f ih =>
  intro a w hcnt ha hW hL
  obtain ⟨N, hN⟩ : ∃ n : Nat, 8 ≤ n := ⟨8, Nat.le_refl _⟩
  refine (callsIn_wide (n := N)).1 ?_
  have h1n : 1 ≤ N := by omega
  have h1n2 : 1 ≤ N - 1 - 1 := by omega
  obtain ⟨n1, n2⟩ := hW.n12
  have lb := hW.lt
  have IH := Lib.hid ih
  have HWW := Lib.hid hW; have HLL := Lib.hid hL; have HA := Lib.hid hA; have HC := Lib.hid hcnt
  obtain ⟨m, hm⟩ : ∃ m, m = w.heap.size := ⟨_, rfl⟩
  have HM := Lib.hid hm
  have htab := hL.lt
  obtain ⟨W2, hW2⟩ : ∃ W2, W2 = (w.alloc (Obj.cells #[Value.pointer (some { block := b, off := 0 })] 68)).alloc (Obj.cells #[Value.int IntKind.i64 0] 3) := ⟨_, rfl⟩
  have b2 : Below w.heap.size w W2 := by rw [hW2]; exact ((Below.refl _ _).alloc (Nat.le_refl _) _).alloc (by simp) _
  have p2 : W2.cell? ⟨m, 0, none⟩ = some (.pointer (some ⟨b, 0, none⟩)) := by rw [hW2, hm]; simp [go_sem]
  have o2 : W2.cell? ⟨m + 1, 0, none⟩ = some (.int .i64 0) := by rw [hW2, hm]; simp [go_sem]
  have f2 : W2.frozen? ⟨m + 1, 0, none⟩ = false := by rw [hW2, hm]; simp [go_sem]
  have CR := Lib.hid (rightAbove_any b t a W2 (hW.below b2) (hL.below b2) ha)
  obtain ⟨G, hG⟩ : ∃ G, G = covG t a := ⟨_, rfl⟩
  rw [← hG] at CR
  have HG := Lib.hid hG; have HW2 := Lib.hid hW2; have HB2 := Lib.hid b2
  clear hW hL hA hcnt ih hG hW2 b2
  refine callsIn_of_wp_marks Tryd.func77 rfl trivial ?_ rfl
  simp only [Tryd.ntmps77, List.size_toArray, List.length_cons, List.length_nil, Nat.reduceAdd, Nat.reduceSub, Array.replicate_succ, Array.replicate_zero, List.push_toArray, List.append_toArray, List.nil_append, List.cons_append]
  gi_wp2_with fail
  refine ⟨trivial, ?_⟩
  rw [← HW2.out]
  refine (callsIn_wide.2 CR.out).mono ?_
  rintro e w1 ⟨rfl, hb1⟩
  have p1 := (hb1.cell (cell_lt p2)).trans p2
  have o1 := (hb1.cell (cell_lt o2)).trans o2
  have f1 := (hb1.frozen (cell_lt o2)).trans f2
  have hbw1 : Below w.heap.size w w1 := HB2.out.trans (hb1.mono HB2.out.size)
  gi_wp2_with (refine ⟨trivial, ?_⟩; gi_at_call 80; refine (callsIn_wide.2 (each_any _ _)).mono ?_; rintro e w' ⟨rfl, rfl⟩)
  obtain ⟨q, hq⟩ : ∃ q, q = w1.heap.size := ⟨_, rfl⟩
  obtain ⟨W5, hW5⟩ : ∃ W5, W5 = w1.alloc (Obj.cells #[Value.int IntKind.u16 ↑G] 72) := ⟨_, rfl⟩
  rw [← hW5, ← hq, ← hm]
  have b5' : Below w1.heap.size w1 W5 := by rw [hW5]; exact (Below.refl _ _).alloc (Nat.le_refl _) _
  have b5 := hbw1.trans (b5'.mono hbw1.size)
  have z5 : W5.heap.size = q + 1 := by rw [hW5, hq]; simp
  have e5 : W5.cell? ⟨q, 0, none⟩ = some (.int .u16 G) := by rw [hW5, hq]; simp [go_sem]
  have lm1 : m + 1 < w1.heap.size := cell_lt o1
  have hqm : m + 2 ≤ q := by omega
  have p5 := (b5'.cell (cell_lt p1)).trans p1
  have o5 := (b5'.cell (cell_lt o1)).trans o1
  have f5 := (b5'.frozen (cell_lt o1)).trans f1
  have hG16 : G < 65536 := by rw [HG.out]; exact grp_lt16 _ (by omega)
  have hels : elems G 16 = (List.range t.n).filter (cov t.R t.n a) := by rw [HG.out]; exact elems_grp _ (by omega)
  have HE := Lib.hid hels; have Z5 := Lib.hid z5
  have htm : 1 < m := by omega
  have HTM := Lib.hid htm
  clear hW5 hels hm z5 htab htm hq hb1 p1 o1 f1 p2 o2 f2 b5' hbw1 lm1
  refine each_till hN (bg := q) (gv := G) rfl hG16 e5 (HLL.out.below b5)
    (fun pre V => (V.cell? ⟨m, 0, none⟩ = some (.pointer (some ⟨b, 0, none⟩)) ∧ V.cell? ⟨m + 1, 0, none⟩ = some (.int .i64 (maxL (pre.map fun c => 1 + hgtC t.R t.n f c) : Nat)) ∧ V.frozen? ⟨m + 1, 0, none⟩ = false) ∧ Below w.heap.size w V) ?hI
    (fun _ _ _ => False) (fun _ _ _ _ h _ => h) ⟨⟨p5, o5, f5⟩, b5⟩
    (fun pre x a' V => ((V.cell? ⟨m, 0, none⟩ = some (.pointer (some ⟨b, 0, none⟩)) ∧ V.cell? ⟨m + 1, 0, none⟩ = some (.int .i64 (maxL (pre.map fun c => 1 + hgtC t.R t.n f c) : Nat)) ∧ V.frozen? ⟨m + 1, 0, none⟩ = false) ∧ Below w.heap.size w V) ∧
      ∃ v4 v7 v8 v9 v10, a' = { tmps := #[.pointer (some ⟨b, 0, none⟩), .int .i64 a, .pointer (some ⟨m, 0, none⟩), undef, v4, .pointer (some ⟨m + 1, 0, none⟩), .int .i64 x, v7, v8, v9, v10, .int .i64 x, undef, undef, undef, undef, undef, undef, undef], defers := [] })
    ?hAx ?assign ?body ?done ?stop
  case hI =>
    rintro pre A B ⟨⟨a1, a2, a3⟩, a4⟩ hd
    have e := HM.out; have z := Z5.out
    have hz : ∀ j, j < m + 2 → ¬ BK W5 j := fun j hj h => by rcases h with h | h <;> omega
    exact ⟨⟨cell_diff a1 hd (hz _ (by omega)), cell_diff a2 hd (hz _ (by omega)), frozen_diff a2 a3 hd (hz _ (by omega))⟩, a4.trans (hd.below a4.size (fun k hk => hz k (by omega)))⟩
  case hAx =>
    rintro pre x a' A B ⟨⟨⟨a1, a2, a3⟩, a4⟩, ha⟩ hd
    have e := HM.out; have z := Z5.out
    have hz : ∀ j, j < m + 2 → ¬ BK W5 j := fun j hj h => by rcases h with h | h <;> omega
    exact ⟨⟨⟨cell_diff a1 hd (hz _ (by omega)), cell_diff a2 hd (hz _ (by omega)), frozen_diff a2 a3 hd (hz _ (by omega))⟩, a4.trans (hd.below a4.size (fun k hk => hz k (by omega)))⟩, ha⟩
  case assign =>
    rintro l' pre x V K hpre hh hbnd hK
    gi_wp2
    exact hK _ _ (Keep.refl _ _) ⟨hh, _, _, _, _, _, rfl⟩
  case body =>
    rintro l' pre x a' V hpre ⟨⟨⟨a1, a2, a3⟩, a4⟩, v4, v7, v8, v9, v10, rfl⟩ hbnd
    have hxe : x ∈ (List.range t.n).filter (cov t.R t.n a) := by
      rw [← HE.out]; obtain ⟨r, hr⟩ := hpre; rw [← hr]; simp
    have hxn : x < t.n := List.mem_range.1 (List.mem_filter.1 hxe).1
    have hax : t.R a x = true := by have := (List.mem_filter.1 hxe).2; unfold cov at this; rw [Bool.and_eq_true] at this; exact this.1
    have hcx : cntU t.R t.n x < f := by have := cnt_less HA.out hax; have := HC.out; omega
    obtain ⟨hx, hhx⟩ : ∃ h, h = hgtC t.R t.n f x := ⟨_, rfl⟩
    have hx12 : hx ≤ 12 := by rw [hhx]; have := hgtC_le HA.out f x; have := cnt_le t.R t.n x; omega
    have C : Hid (∀ W m', Below V.heap.size V W → CallsIn (Fence.wide.inRound l') m' Tryd.prog 77 #[.pointer (some ⟨b, 0, none⟩), .int .i64 x] W fun e w' => e = .returned (.int .i64 (hx : Nat)) ∧ Below W.heap.size W w') := fun W m' h => by
      have h2 := a4.trans (h.mono a4.size)
      rw [hhx]
      exact CallsIn.inRound _ (callsIn_wide.2 (IH.out x W hcx hxn (HWW.out.below h2) (HLL.out.below h2)))
    obtain ⟨mo, hmo⟩ : ∃ mo, mo = maxL (pre.map fun c => 1 + hgtC t.R t.n f c) := ⟨_, rfl⟩
    rw [← hmo] at a2
    have hnew : Hid (((max (mo : Int) (1 + (hx : Int)))) = ((maxL ((pre ++ [x]).map fun c => 1 + hgtC t.R t.n f c) : Nat) : Int)) := by
      show _ = _
      rw [List.map_append, List.map_cons, List.map_nil, maxL_snoc, ← hmo, ← hhx]; omega
    have hwr : IntKind.i64.wrap (1 + (hx : Int)) = 1 + (hx : Int) := by simp [IntKind.wrap, IntKind.bits, IntKind.signed]; omega
    have hm1 : m + 1 < V.heap.size := cell_lt a2
    have hm0 : m < V.heap.size := cell_lt a1
    have HB := Lib.hid a4
    clear hxe hxn hax hcx hhx hmo a4
    gi_wp2
    gi_region_with (refine ⟨trivial, ?_⟩; gi_at_call 77; refine (C.out _ _ (by repeat (first | exact Below.refl _ _ | refine Below.drew ?_))).mono ?_; rintro e w' ⟨rfl, hbw⟩; have hbV : Below V.heap.size V w' := (show Below V.heap.size V _ by repeat (first | exact Below.refl _ _ | refine Below.drew ?_)).trans (hbw.mono (by simp)); have hx1 : w'.cell? ⟨m + 1, 0, none⟩ = some (.int .i64 mo) := (hbV.cell hm1).trans a2; have hx2 : w'.frozen? ⟨m + 1, 0, none⟩ = false := (hbV.frozen (p := ⟨m + 1, 0, none⟩) hm1).trans a3; have hx0 : w'.cell? ⟨m, 0, none⟩ = some (.pointer (some ⟨b, 0, none⟩)) := (hbV.cell hm0).trans a1)
    all_goals
      have HPw : Hid (BxP w m (m + 1) b (.int .i64 mo) w') := ⟨⟨hx0, hx1, hx2⟩, HB.out.trans (hbV.mono HB.out.size)⟩
      have HK : Hid (Keep (BT W5) V w') := Keep.of_below hbV
      clear hbV hbw
      gi_wp2
    all_goals
      have e := HM.out; have z := Z5.out; have ht := HTM.out
      refine ⟨?_, (show BxP w m (m + 1) b (.int .i64 (maxL ((pre ++ [x]).map fun c => 1 + hgtC t.R t.n f c) : Nat)) _ from ?_)⟩
      · repeat (first | exact HK.out | refine Keep.drew ?_ | refine Keep.setCell ?_ (by rintro (h | h | h) <;> simp at h <;> omega) _)
      · rw [← hnew.out]
        first
          | rw [show max (mo : Int) (1 + (hx : Int)) = 1 + (hx : Int) from by omega]
          | rw [show max (mo : Int) (1 + (hx : Int)) = mo from by omega]
        repeat (first | exact HPw.out | refine BxP.drew ?_ | refine BxP.set (x := .int .i64 mo) ?_ (by omega) (by omega) _)
  case done =>
    rintro V ⟨⟨a1, a2, a3⟩, a4⟩ hK
    have hR : maxL ((elems G 16).map fun c => 1 + hgtC t.R t.n f c) = hgtC t.R t.n (f + 1) a := by rw [HE.out]; rfl
    rw [hR] at a2
    clear hR
    gi_wp2
    have e := HM.out; have z := Z5.out
    refine ⟨by simp, .inl ⟨_, _, rfl, run_takeDeferred hK, ?_⟩⟩
    have hd := (Diff.refl (fun k => k = W5.heap.size) V).putObj (l := W5.heap.size) rfl (Obj.deferred none)
    exact ⟨.int .i64 (hgtC t.R t.n (f + 1) a : Nat), by simp [results, Tryd.results77, go_sem], rfl, a4.trans (hd.below a4.size (fun j hj hm => by omega))⟩
  case stop => rintro c pre x V hpre h; exact h.elim
end Go.Proofs.YtfhnigpjmljhbaaDoor.Or
