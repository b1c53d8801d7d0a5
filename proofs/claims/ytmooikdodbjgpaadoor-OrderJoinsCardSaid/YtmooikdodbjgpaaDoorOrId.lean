/- The reference's Join, Primes, Parts and Height, of any table and any numbers; order's exported Primes. -/
import Derived.Test.YtmooikdodbjgpaaDoorOrIc
import Derived.Test.YtmooikdodbjgpaaDoorOrAi
set_option linter.unusedVariables false
set_option linter.unusedSimpArgs false
namespace Go.Proofs.YtmooikdodbjgpaaDoor.Or
open Go.RowKit Go.Shelf

theorem latE_es (t : Tab) (es : List Int) : latE t es = if latE t [] = 0 then (if es.all (inF t.n) then 0 else 7) else latE t [] := by
  unfold latE
  cases hf : frmF t with
  | false => simp
  | true =>
    cases hl : latF t with
    | false => simp
    | true => simp
theorem primes_list {R : Nat → Nat → Bool} {n : Nat} (h : Acy R n) : (List.range n).filter (primeR R n) = (List.range n).filter (primeO R n) :=
  List.filter_congr fun z _ => prime_eq h z
theorem getD_inj {n : Nat} {p : Nat → Bool} {k i : Nat} (hk : k < ((List.range n).filter p).length) (hi : i < ((List.range n).filter p).length) : ((List.range n).filter p).getD k 0 = ((List.range n).filter p).getD i 0 ↔ k = i := by
  constructor
  · intro h
    have hs : ((List.range n).filter p).Pairwise (· < ·) := List.pairwise_lt_range.filter _
    rw [List.pairwise_iff_getElem] at hs
    simp only [List.getD_eq_getElem?_getD, List.getElem?_eq_getElem hk, List.getElem?_eq_getElem hi, Option.getD_some] at h
    rcases Nat.lt_trichotomy k i with e | e | e
    · have := hs k i hk hi e; omega
    · exact e
    · have := hs i k hi hk e; omega
  · rintro rfl; rfl
theorem topF_all {R : Nat → Nat → Bool} {n : Nat} {p : Nat → Bool} {a i : Nat} (hi : i < ((List.range n).filter p).length) :
    topF R ((List.range n).filter p) a i ((List.range n).filter p).length = (bel R (((List.range n).filter p).getD i 0) a && ((List.range n).filter p).all fun q => q == ((List.range n).filter p).getD i 0 || (!bel R q a || !bel R (((List.range n).filter p).getD i 0) q)) := by
  unfold topF
  congr 1
  rw [Bool.eq_iff_iff, List.all_eq_true, List.all_eq_true]
  constructor
  · intro h q hq
    obtain ⟨k, hk, rfl⟩ := List.getElem_of_mem hq
    have h1 := h k (List.mem_range.2 hk)
    have e := getD_inj hk hi
    have eg : ((List.range n).filter p).getD k 0 = ((List.range n).filter p)[k] := by simp [List.getD_eq_getElem?_getD, hk]
    rw [eg] at h1 e
    simp only [Bool.or_eq_true, beq_iff_eq] at h1 ⊢
    rcases h1 with h1 | h1
    · exact .inl (e.2 h1)
    · exact .inr h1
  · intro h k hk
    have hk' := List.mem_range.1 hk
    have h1 := h (((List.range n).filter p).getD k 0) (by simp [List.getD_eq_getElem?_getD, hk'])
    simp only [Bool.or_eq_true, beq_iff_eq] at h1 ⊢
    rcases h1 with h1 | h1
    · exact .inl ((getD_inj hk' hi).1 h1)
    · exact .inr h1
theorem map_getD_filter (L : List Nat) (f : Nat → Bool) (g : Nat → Bool) (h : ∀ i, i < L.length → f i = g (L.getD i 0)) : ((List.range L.length).filter f).map (fun k => L.getD k 0) = L.filter g := by
  have h1 : (List.range L.length).map (fun k => L.getD k 0) = L := by
    refine List.ext_getElem (by simp) fun i h1 h2 => ?_
    simp [List.getD_eq_getElem?_getD, h2]
  have h2 : L.filter g = (((List.range L.length).map fun k => L.getD k 0)).filter g := by rw [h1]
  rw [h2, List.filter_map]
  congr 1
  exact List.filter_congr fun i hi => h i (List.mem_range.1 hi)
theorem parts_list (t : Tab) (a : Nat) (hA : Acy t.R t.n) : partsI t.R ((List.range t.n).filter (primeR t.R t.n)) a ((List.range t.n).filter (primeR t.R t.n)).length = partsL t a := by
  unfold partsI
  rw [map_getD_filter _ _ (fun p => bel t.R p a && ((List.range t.n).filter (primeR t.R t.n)).all fun q => q == p || (!bel t.R q a || !bel t.R p q)) (fun i hi => topF_all hi)]
  unfold partsL
  rw [List.filter_filter]
  refine List.filter_congr fun p hp => ?_
  have hpn := List.mem_range.1 hp
  rw [part_eq hA]
  unfold parP parM
  rw [prime_eq hA]
  have : (((List.range t.n).filter (primeR t.R t.n)).all fun q => !(bel t.R q a && t.R p q)) = !(List.range t.n).any fun c => t.R p c && parP t a c := by
    rw [Bool.eq_iff_iff]
    simp only [List.all_eq_true, List.mem_filter, List.mem_range, Bool.not_eq_true', List.any_eq_false, Bool.and_eq_true, not_and]
    unfold parP
    constructor
    · intro h c hc h1
      rw [Bool.and_eq_true, ← prime_eq hA]
      rintro ⟨h2, h3⟩
      have := h c ⟨hc, h2⟩
      rw [h3, h1] at this; simp at this
    · intro h q hq
      cases hb : bel t.R q a with
      | false => rfl
      | true =>
        cases hr : t.R p q with
        | false => rfl
        | true =>
          have := h q hq.1 hr
          rw [← prime_eq hA, hq.2, hb] at this
          exact absurd rfl this
  rw [this]
  cases bel t.R p a <;> cases primeO t.R t.n p <;> simp

set_option maxRecDepth 100000 in
set_option maxHeartbeats 8000000 in
theorem joinOf_any (t : Tab) (ve va vw : Value) (a c : Nat) (w : World) (hT : TabIn w ve va vw t) (hf : frmF t = true) (hLat : Lat t.R t.n t.wr) (ha : a < t.n) (hc : c < t.n) :
    Calls Tryd.prog 75 #[tabV t ve va vw, .int .i64 a, .int .i64 c] w fun e w' => e = .returned (.int .i64 (jn t.R t.n a c : Nat)) ∧ Below w.heap.size w w' := by
  have hAcy := frm_acy hf hLat
  have n12 : t.n ≤ 12 := (frm_len hf).2.1
  obtain ⟨W0, hW0⟩ : ∃ W0, W0 = w.alloc (Obj.cells #[.string (mkS t.name), ve, va, vw] 26) := ⟨_, rfl⟩
  have b0 : Below w.heap.size w W0 := by rw [hW0]; exact (Below.refl _ _).alloc (Nat.le_refl _) _
  have c0 : W0.cell? ⟨w.heap.size, 0, none⟩ = some (.string (mkS t.name)) := by rw [hW0]; simp [go_sem]
  have c1 : W0.cell? ⟨w.heap.size, 1, none⟩ = some ve := by rw [hW0]; simp [go_sem]
  have c2 : W0.cell? ⟨w.heap.size, 2, none⟩ = some va := by rw [hW0]; simp [go_sem]
  have c3 : W0.cell? ⟨w.heap.size, 3, none⟩ = some vw := by rw [hW0]; simp [go_sem]
  have KS : Hid (∀ U, Below W0.heap.size W0 U → U.cell? ⟨w.heap.size, 0, none⟩ = some (.string (mkS t.name)) ∧ U.cell? ⟨w.heap.size, 1, none⟩ = some ve ∧ U.cell? ⟨w.heap.size, 2, none⟩ = some va ∧ U.cell? ⟨w.heap.size, 3, none⟩ = some vw) := fun U h =>
    ⟨(h.cell (cell_lt c0)).trans c0, (h.cell (cell_lt c1)).trans c1, (h.cell (cell_lt c2)).trans c2, (h.cell (cell_lt c3)).trans c3⟩
  have CR := Lib.hid (rel_any t ve va vw W0 (hT.below b0) hf)
  obtain ⟨j, hj, hjn, _, _⟩ := hLat.joins hAcy ha hc
  have HLI : Hid (leastI t.R (bothF t.R a c t.n) = ((jn t.R t.n a c : Nat) : Int)) := by
    show _ = _; unfold leastI jn; rw [both_ups]; unfold joinO at hj ⊢; rw [hj]; rfl
  obtain ⟨pe, ce, rfl⟩ := hT.e.form
  obtain ⟨pa, ca, rfl⟩ := hT.a.form
  obtain ⟨pw, cw, rfl⟩ := hT.w.form
  have HW0 := Lib.hid hW0
  have HBW : Hid (∀ U, Below W0.heap.size W0 U → Below w.heap.size w U) := fun U h => b0.trans (h.mono b0.size)
  unfold tabV at CR ⊢
  clear hT hf hLat hAcy hW0 b0 c0 c1 c2 c3 hj hjn
  obtain ⟨k0, k1, k2, k3⟩ := KS.out _ (Below.refl _ _)
  go_enter Tryd.func75, Tryd.ntmps75
  go_wp2_with fail
  rw [← HW0.out]
  refine (CR.out).mono ?_
  rintro e w2 ⟨v2, rfl, hv2, hb⟩
  have HBw2 : Hid (Below W0.heap.size W0 w2) := hb
  clear hb k0 k1 k2 k3
  go_wp2_with fail
  refine (bounds_any t.R t.n a c v2 w2 hv2 n12 ha hc).mono ?_
  rintro e w3 ⟨v3, rfl, h3, hb⟩
  have HBw3 := Lib.hid (HBw2.out.trans (hb.mono HBw2.out.size))
  have hv3 := hv2.below hb
  have hlen := both_len t.R a c t.n
  go_wp2_with fail
  refine (least_ref t.R t.n (bothF t.R a c t.n) v2 v3 w3 hv3 n12 h3 (by omega) (fun j hj => by
    have : (bothF t.R a c t.n).getD j 0 ∈ bothF t.R a c t.n := by simp [List.getD_eq_getElem?_getD, hj]
    exact both_lt this)).mono ?_
  rintro e w4 ⟨rfl, hb4⟩
  have HBw4 := Lib.hid (HBw3.out.trans (hb4.mono HBw3.out.size))
  rw [HLI.out]
  clear hb hb4 h3 hv2 hv3 hlen
  go_wp2
  go_ret
  exact ⟨rfl, HBW.out _ HBw4.out⟩

set_option maxRecDepth 100000 in
set_option maxHeartbeats 8000000 in
theorem refJoin_any (t : Tab) (ve va vw : Value) (a c : Int) (w : World) (hT : TabIn w ve va vw t) (hS : Small t) :
    Calls Tryd.prog 32 #[tabV t ve va vw, .int .i64 a, .int .i64 c] w fun e w' => e = .returned (.tuple #[.int .i64 ((if latE t [a, c] = 0 then (joinO t.R t.n a.toNat c.toNat).getD 0 else 0 : Nat) : Int), .int .i64 (latE t [a, c] : Nat)]) ∧ Below w.heap.size w w' := by
  obtain ⟨W0, hW0⟩ : ∃ W0, W0 = w.alloc (Obj.cells #[.string (mkS t.name), ve, va, vw] 26) := ⟨_, rfl⟩
  have b0 : Below w.heap.size w W0 := by rw [hW0]; exact (Below.refl _ _).alloc (Nat.le_refl _) _
  have c0 : W0.cell? ⟨w.heap.size, 0, none⟩ = some (.string (mkS t.name)) := by rw [hW0]; simp [go_sem]
  have c1 : W0.cell? ⟨w.heap.size, 1, none⟩ = some ve := by rw [hW0]; simp [go_sem]
  have c2 : W0.cell? ⟨w.heap.size, 2, none⟩ = some va := by rw [hW0]; simp [go_sem]
  have c3 : W0.cell? ⟨w.heap.size, 3, none⟩ = some vw := by rw [hW0]; simp [go_sem]
  have KS : Hid (∀ U, Below W0.heap.size W0 U → U.cell? ⟨w.heap.size, 0, none⟩ = some (.string (mkS t.name)) ∧ U.cell? ⟨w.heap.size, 1, none⟩ = some ve ∧ U.cell? ⟨w.heap.size, 2, none⟩ = some va ∧ U.cell? ⟨w.heap.size, 3, none⟩ = some vw) := fun U h =>
    ⟨(h.cell (cell_lt c0)).trans c0, (h.cell (cell_lt c1)).trans c1, (h.cell (cell_lt c2)).trans c2, (h.cell (cell_lt c3)).trans c3⟩
  have CL := Lib.hid (isLattice_any t ve va vw W0 (hT.below b0) hS)
  have CI : Hid (∀ U x, Below W0.heap.size W0 U → Calls Tryd.prog 54 #[tabV t ve va vw, .int .i64 x] U fun e w' => e = .returned (.bool (inF t.n x)) ∧ Below U.heap.size U w') := fun U x h => isElem_int t ve va vw x U (hT.below (b0.trans (h.mono b0.size)))
  have CJ : Hid (latE t [] = 0 → ∀ U (k l : Nat), Below W0.heap.size W0 U → k < t.n → l < t.n → Calls Tryd.prog 75 #[tabV t ve va vw, .int .i64 k, .int .i64 l] U fun e w' => e = .returned (.int .i64 (jn t.R t.n k l : Nat)) ∧ Below U.heap.size U w') := fun h0 U k l h hk hl => joinOf_any t ve va vw k l U (hT.below (b0.trans (h.mono b0.size))) (latE_zero h0).1 (latF_lat (latE_zero h0).2.1) hk hl
  obtain ⟨pe, ce, rfl⟩ := hT.e.form
  obtain ⟨pa, ca, rfl⟩ := hT.a.form
  obtain ⟨pw, cw, rfl⟩ := hT.w.form
  have HW0 := Lib.hid hW0
  have HBW : Hid (∀ U, Below W0.heap.size W0 U → Below w.heap.size w U) := fun U h => b0.trans (h.mono b0.size)
  have hes := latE_es t [a, c]
  obtain ⟨E, hE⟩ : ∃ E, E = latE t [] := ⟨_, rfl⟩
  rw [← hE] at CL hes
  unfold tabV at CL CI CJ ⊢
  by_cases hE0 : E = 0
  · have CJ2 := Lib.hid (CJ.out (by rw [← hE]; exact hE0))
    subst hE0
    rw [if_pos rfl] at hes
    cases hIa : inF t.n a with
    | false =>
      rw [hes]; simp only [List.all_cons, hIa, Bool.false_and]
      clear hT hS hW0 b0 c0 c1 c2 c3 hes hE CJ
      obtain ⟨k0, k1, k2, k3⟩ := KS.out _ (Below.refl _ _)
      go_enter Tryd.func32, Tryd.ntmps32
      go_wp2_with fail
      rw [← HW0.out]
      refine (CL.out).mono ?_
      rintro e w2 ⟨rfl, hb⟩
      have HBw2 : Hid (Below W0.heap.size W0 w2) := hb
      clear hb k0 k1 k2 k3
      obtain ⟨k0, k1, k2, k3⟩ := KS.out _ HBw2.out
      go_wp2_with fail
      refine (CI.out _ a HBw2.out).mono ?_
      rintro e w3 ⟨rfl, hb⟩
      have HBw3 := Lib.hid (HBw2.out.trans (hb.mono HBw2.out.size))
      clear hb k0 k1 k2 k3
      rw [hIa]
      clear hIa
      go_wp2
      go_ret2
      exact ⟨rfl, HBW.out _ HBw3.out⟩
    | true =>
      cases hIc : inF t.n c with
      | false =>
        rw [hes]; simp only [List.all_cons, hIa, hIc, Bool.false_and, Bool.and_false]
        clear hT hS hW0 b0 c0 c1 c2 c3 hes hE CJ
        obtain ⟨k0, k1, k2, k3⟩ := KS.out _ (Below.refl _ _)
        go_enter Tryd.func32, Tryd.ntmps32
        go_wp2_with fail
        rw [← HW0.out]
        refine (CL.out).mono ?_
        rintro e w2 ⟨rfl, hb⟩
        have HBw2 : Hid (Below W0.heap.size W0 w2) := hb
        clear hb k0 k1 k2 k3
        obtain ⟨k0, k1, k2, k3⟩ := KS.out _ HBw2.out
        go_wp2_with fail
        refine (CI.out _ a HBw2.out).mono ?_
        rintro e w3 ⟨rfl, hb⟩
        have HBw3 := Lib.hid (HBw2.out.trans (hb.mono HBw2.out.size))
        clear hb k0 k1 k2 k3
        rw [hIa]
        clear hIa
        obtain ⟨k0, k1, k2, k3⟩ := KS.out _ HBw3.out
        go_wp2_with fail
        refine (CI.out _ c HBw3.out).mono ?_
        rintro e w4 ⟨rfl, hb⟩
        have HBw4 := Lib.hid (HBw3.out.trans (hb.mono HBw3.out.size))
        clear hb k0 k1 k2 k3
        rw [hIc]
        clear hIc
        go_wp2
        go_ret2
        exact ⟨rfl, HBW.out _ HBw4.out⟩
      | true =>
        obtain ⟨k, rfl, hkn⟩ := in_nat hIa
        obtain ⟨l, rfl, hln⟩ := in_nat hIc
        have hz : latE t [(k : Int), (l : Int)] = 0 := by rw [hes]; simp [hIa, hIc]
        rw [hz, if_pos rfl, show (k : Int).toNat = k from rfl, show (l : Int).toNat = l from rfl]
        have HIA := Lib.hid hIa; have HIC := Lib.hid hIc
        have CJ3 : Hid (∀ U, Below W0.heap.size W0 U → Calls Tryd.prog 75 #[.agg #[.string (mkS t.name), .slice pe t.elems.length ce, .slice pa t.above.length ca, .slice pw t.wrong.length cw], .int .i64 k, .int .i64 l] U fun e w' => e = .returned (.int .i64 (((joinO t.R t.n k l).getD 0 : Nat) : Int)) ∧ Below U.heap.size U w') := fun U h => CJ2.out U k l h hkn hln
        clear hT hS hW0 b0 c0 c1 c2 c3 hes hE CJ CJ2 hIa hIc hkn hln hz
        obtain ⟨k0, k1, k2, k3⟩ := KS.out _ (Below.refl _ _)
        go_enter Tryd.func32, Tryd.ntmps32
        go_wp2_with fail
        rw [← HW0.out]
        refine (CL.out).mono ?_
        rintro e w2 ⟨rfl, hb⟩
        have HBw2 : Hid (Below W0.heap.size W0 w2) := hb
        clear hb k0 k1 k2 k3
        obtain ⟨k0, k1, k2, k3⟩ := KS.out _ HBw2.out
        go_wp2_with fail
        refine (CI.out _ k HBw2.out).mono ?_
        rintro e w3 ⟨rfl, hb⟩
        have HBw3 := Lib.hid (HBw2.out.trans (hb.mono HBw2.out.size))
        clear hb k0 k1 k2 k3
        rw [HIA.out]
        obtain ⟨k0, k1, k2, k3⟩ := KS.out _ HBw3.out
        go_wp2_with fail
        refine (CI.out _ l HBw3.out).mono ?_
        rintro e w4 ⟨rfl, hb⟩
        have HBw4 := Lib.hid (HBw3.out.trans (hb.mono HBw3.out.size))
        clear hb k0 k1 k2 k3
        rw [HIC.out]
        obtain ⟨k0, k1, k2, k3⟩ := KS.out _ HBw4.out
        go_wp2_with fail
        refine (CJ3.out _ HBw4.out).mono ?_
        rintro e w5 ⟨rfl, hb⟩
        have HBw5 := Lib.hid (HBw4.out.trans (hb.mono HBw4.out.size))
        clear hb k0 k1 k2 k3
        go_wp2
        go_ret2
        exact ⟨rfl, HBW.out _ HBw5.out⟩
  · have gE : ((E : Int) != 0) = true := by rw [bne_iff_ne]; omega
    rw [if_neg hE0] at hes
    rw [hes, if_neg hE0]
    clear hT hS hW0 b0 c0 c1 c2 c3 hes hE hE0 CJ CI
    obtain ⟨k0, k1, k2, k3⟩ := KS.out _ (Below.refl _ _)
    go_enter Tryd.func32, Tryd.ntmps32
    go_wp2_with fail
    rw [← HW0.out]
    refine (CL.out).mono ?_
    rintro e w2 ⟨rfl, hb⟩
    have HBw2 : Hid (Below W0.heap.size W0 w2) := hb
    clear hb k0 k1 k2 k3
    go_wp2
    go_ret2
    exact ⟨rfl, HBW.out _ HBw2.out⟩

set_option maxRecDepth 100000 in
set_option maxHeartbeats 8000000 in
theorem refHeight_any (t : Tab) (ve va vw : Value) (w : World) (hT : TabIn w ve va vw t) (hS : Small t) :
    Calls Tryd.prog 35 #[tabV t ve va vw] w fun e w' => e = .returned (.tuple #[.int .i64 ((if latE t [] = 0 then hgtC t.R t.n (t.n + 1) 0 else 0 : Nat) : Int), .int .i64 (latE t [] : Nat)]) ∧ Below w.heap.size w w' := by
  obtain ⟨W0, hW0⟩ : ∃ W0, W0 = w.alloc (Obj.cells #[.string (mkS t.name), ve, va, vw] 26) := ⟨_, rfl⟩
  have b0 : Below w.heap.size w W0 := by rw [hW0]; exact (Below.refl _ _).alloc (Nat.le_refl _) _
  have c0 : W0.cell? ⟨w.heap.size, 0, none⟩ = some (.string (mkS t.name)) := by rw [hW0]; simp [go_sem]
  have c1 : W0.cell? ⟨w.heap.size, 1, none⟩ = some ve := by rw [hW0]; simp [go_sem]
  have c2 : W0.cell? ⟨w.heap.size, 2, none⟩ = some va := by rw [hW0]; simp [go_sem]
  have c3 : W0.cell? ⟨w.heap.size, 3, none⟩ = some vw := by rw [hW0]; simp [go_sem]
  have KS : Hid (∀ U, Below W0.heap.size W0 U → U.cell? ⟨w.heap.size, 0, none⟩ = some (.string (mkS t.name)) ∧ U.cell? ⟨w.heap.size, 1, none⟩ = some ve ∧ U.cell? ⟨w.heap.size, 2, none⟩ = some va ∧ U.cell? ⟨w.heap.size, 3, none⟩ = some vw) := fun U h =>
    ⟨(h.cell (cell_lt c0)).trans c0, (h.cell (cell_lt c1)).trans c1, (h.cell (cell_lt c2)).trans c2, (h.cell (cell_lt c3)).trans c3⟩
  have CL := Lib.hid (isLattice_any t ve va vw W0 (hT.below b0) hS)
  have CH : Hid (latE t [] = 0 → ∀ U, Below W0.heap.size W0 U → Calls Tryd.prog 78 #[tabV t ve va vw, .int .i64 0] U fun e w' => e = .returned (.int .i64 (hgtC t.R t.n (t.n + 1) 0 : Nat)) ∧ Below U.heap.size U w') := fun h0 U h => by
    have hf := (latE_zero h0).1
    have hA := frm_acy hf (latF_lat (latE_zero h0).2.1)
    have hc := cnt_le t.R t.n 0
    rw [hgt_cov hA (by omega), hgt_fuel hA (f := t.n + 1) (g := t.n) (by omega) hc]
    exact refHigh_any t hf hA t.n 0 hc (frm_len hf).1 ve va vw U (hT.below (b0.trans (h.mono b0.size)))
  obtain ⟨pe, ce, rfl⟩ := hT.e.form
  obtain ⟨pa, ca, rfl⟩ := hT.a.form
  obtain ⟨pw, cw, rfl⟩ := hT.w.form
  have HW0 := Lib.hid hW0
  have HBW : Hid (∀ U, Below W0.heap.size W0 U → Below w.heap.size w U) := fun U h => b0.trans (h.mono b0.size)
  obtain ⟨E, hE⟩ : ∃ E, E = latE t [] := ⟨_, rfl⟩
  rw [← hE] at CL ⊢
  unfold tabV at CL CH ⊢
  by_cases hE0 : E = 0
  · have CH2 := Lib.hid (CH.out (by rw [← hE]; exact hE0))
    subst hE0
    rw [if_pos rfl]
    clear hT hS hW0 b0 c0 c1 c2 c3 hE CH
    obtain ⟨k0, k1, k2, k3⟩ := KS.out _ (Below.refl _ _)
    go_enter Tryd.func35, Tryd.ntmps35
    go_wp2_with fail
    rw [← HW0.out]
    refine (CL.out).mono ?_
    rintro e w2 ⟨rfl, hb⟩
    have HBw2 : Hid (Below W0.heap.size W0 w2) := hb
    clear hb k0 k1 k2 k3
    obtain ⟨k0, k1, k2, k3⟩ := KS.out _ HBw2.out
    go_wp2_with fail
    refine (CH2.out _ HBw2.out).mono ?_
    rintro e w3 ⟨rfl, hb⟩
    have HBw3 := Lib.hid (HBw2.out.trans (hb.mono HBw2.out.size))
    clear hb k0 k1 k2 k3
    go_wp2
    go_ret2
    exact ⟨rfl, HBW.out _ HBw3.out⟩
  · have gE : ((E : Int) != 0) = true := by rw [bne_iff_ne]; omega
    rw [if_neg hE0]
    clear hT hS hW0 b0 c0 c1 c2 c3 hE hE0 CH
    obtain ⟨k0, k1, k2, k3⟩ := KS.out _ (Below.refl _ _)
    go_enter Tryd.func35, Tryd.ntmps35
    go_wp2_with fail
    rw [← HW0.out]
    refine (CL.out).mono ?_
    rintro e w2 ⟨rfl, hb⟩
    have HBw2 : Hid (Below W0.heap.size W0 w2) := hb
    clear hb k0 k1 k2 k3
    go_wp2
    go_ret2
    exact ⟨rfl, HBW.out _ HBw2.out⟩

set_option maxRecDepth 100000 in
set_option maxHeartbeats 8000000 in
theorem refPrimes_any (t : Tab) (ve va vw : Value) (w : World) (hT : TabIn w ve va vw t) (hS : Small t) :
    Calls Tryd.prog 33 #[tabV t ve va vw] w fun e w' => ∃ v, e = .returned (.tuple #[v, .int .i64 (latE t [] : Nat)]) ∧ Rd w' v (intsV (if latE t [] = 0 then (List.range t.n).filter (primeO t.R t.n) else [])) ∧ Below w.heap.size w w' := by
  obtain ⟨W0, hW0⟩ : ∃ W0, W0 = w.alloc (Obj.cells #[.string (mkS t.name), ve, va, vw] 26) := ⟨_, rfl⟩
  have b0 : Below w.heap.size w W0 := by rw [hW0]; exact (Below.refl _ _).alloc (Nat.le_refl _) _
  have c0 : W0.cell? ⟨w.heap.size, 0, none⟩ = some (.string (mkS t.name)) := by rw [hW0]; simp [go_sem]
  have c1 : W0.cell? ⟨w.heap.size, 1, none⟩ = some ve := by rw [hW0]; simp [go_sem]
  have c2 : W0.cell? ⟨w.heap.size, 2, none⟩ = some va := by rw [hW0]; simp [go_sem]
  have c3 : W0.cell? ⟨w.heap.size, 3, none⟩ = some vw := by rw [hW0]; simp [go_sem]
  have KS : Hid (∀ U, Below W0.heap.size W0 U → U.cell? ⟨w.heap.size, 0, none⟩ = some (.string (mkS t.name)) ∧ U.cell? ⟨w.heap.size, 1, none⟩ = some ve ∧ U.cell? ⟨w.heap.size, 2, none⟩ = some va ∧ U.cell? ⟨w.heap.size, 3, none⟩ = some vw) := fun U h =>
    ⟨(h.cell (cell_lt c0)).trans c0, (h.cell (cell_lt c1)).trans c1, (h.cell (cell_lt c2)).trans c2, (h.cell (cell_lt c3)).trans c3⟩
  have CL := Lib.hid (isLattice_any t ve va vw W0 (hT.below b0) hS)
  have CH : Hid (latE t [] = 0 → ∀ U, Below W0.heap.size W0 U → Calls Tryd.prog 76 #[tabV t ve va vw] U fun e w' => ∃ v, e = .returned v ∧ Rd w' v (intsV ((List.range t.n).filter (primeO t.R t.n))) ∧ Below U.heap.size U w') := fun h0 U h => by
    have hf := (latE_zero h0).1
    have hl := latF_lat (latE_zero h0).2.1
    rw [← primes_list (frm_acy hf hl)]
    exact primesOf_any t ve va vw U (hT.below (b0.trans (h.mono b0.size))) hf hl
  obtain ⟨pe, ce, rfl⟩ := hT.e.form
  obtain ⟨pa, ca, rfl⟩ := hT.a.form
  obtain ⟨pw, cw, rfl⟩ := hT.w.form
  have HW0 := Lib.hid hW0
  have HBW : Hid (∀ U, Below W0.heap.size W0 U → Below w.heap.size w U) := fun U h => b0.trans (h.mono b0.size)
  obtain ⟨E, hE⟩ : ∃ E, E = latE t [] := ⟨_, rfl⟩
  rw [← hE] at CL ⊢
  unfold tabV at CL CH ⊢
  by_cases hE0 : E = 0
  · have CH2 := Lib.hid (CH.out (by rw [← hE]; exact hE0))
    subst hE0
    rw [if_pos rfl]
    clear hT hS hW0 b0 c0 c1 c2 c3 hE CH
    obtain ⟨k0, k1, k2, k3⟩ := KS.out _ (Below.refl _ _)
    go_enter Tryd.func33, Tryd.ntmps33
    go_wp2_with fail
    rw [← HW0.out]
    refine (CL.out).mono ?_
    rintro e w2 ⟨rfl, hb⟩
    have HBw2 : Hid (Below W0.heap.size W0 w2) := hb
    clear hb k0 k1 k2 k3
    obtain ⟨k0, k1, k2, k3⟩ := KS.out _ HBw2.out
    go_wp2_with fail
    refine (CH2.out _ HBw2.out).mono ?_
    rintro e w3 ⟨v3, rfl, hv3, hb⟩
    have HBw3 := Lib.hid (HBw2.out.trans (hb.mono HBw2.out.size))
    clear hb k0 k1 k2 k3
    have HV := Lib.hid hv3
    clear hv3
    go_wp2
    go_ret2
    exact ⟨_, rfl, HV.out, HBW.out _ HBw3.out⟩
  · have gE : ((E : Int) != 0) = true := by rw [bne_iff_ne]; omega
    rw [if_neg hE0]
    clear hT hS hW0 b0 c0 c1 c2 c3 hE hE0 CH
    obtain ⟨k0, k1, k2, k3⟩ := KS.out _ (Below.refl _ _)
    go_enter Tryd.func33, Tryd.ntmps33
    go_wp2_with fail
    rw [← HW0.out]
    refine (CL.out).mono ?_
    rintro e w2 ⟨rfl, hb⟩
    have HBw2 : Hid (Below W0.heap.size W0 w2) := hb
    clear hb k0 k1 k2 k3
    go_wp2
    go_ret2
    exact ⟨_, rfl, Rd.nil _, HBW.out _ HBw2.out⟩

set_option maxRecDepth 100000 in
set_option maxHeartbeats 8000000 in
theorem refParts_any (t : Tab) (ve va vw : Value) (a : Int) (w : World) (hT : TabIn w ve va vw t) (hS : Small t) :
    Calls Tryd.prog 34 #[tabV t ve va vw, .int .i64 a] w fun e w' => ∃ v, e = .returned (.tuple #[v, .int .i64 (latE t [a] : Nat)]) ∧ Rd w' v (intsV (if latE t [a] = 0 then partsL t a.toNat else [])) ∧ Below w.heap.size w w' := by
  obtain ⟨W0, hW0⟩ : ∃ W0, W0 = w.alloc (Obj.cells #[.string (mkS t.name), ve, va, vw] 26) := ⟨_, rfl⟩
  have b0 : Below w.heap.size w W0 := by rw [hW0]; exact (Below.refl _ _).alloc (Nat.le_refl _) _
  have c0 : W0.cell? ⟨w.heap.size, 0, none⟩ = some (.string (mkS t.name)) := by rw [hW0]; simp [go_sem]
  have c1 : W0.cell? ⟨w.heap.size, 1, none⟩ = some ve := by rw [hW0]; simp [go_sem]
  have c2 : W0.cell? ⟨w.heap.size, 2, none⟩ = some va := by rw [hW0]; simp [go_sem]
  have c3 : W0.cell? ⟨w.heap.size, 3, none⟩ = some vw := by rw [hW0]; simp [go_sem]
  have KS : Hid (∀ U, Below W0.heap.size W0 U → U.cell? ⟨w.heap.size, 0, none⟩ = some (.string (mkS t.name)) ∧ U.cell? ⟨w.heap.size, 1, none⟩ = some ve ∧ U.cell? ⟨w.heap.size, 2, none⟩ = some va ∧ U.cell? ⟨w.heap.size, 3, none⟩ = some vw) := fun U h =>
    ⟨(h.cell (cell_lt c0)).trans c0, (h.cell (cell_lt c1)).trans c1, (h.cell (cell_lt c2)).trans c2, (h.cell (cell_lt c3)).trans c3⟩
  have CL := Lib.hid (isLattice_any t ve va vw W0 (hT.below b0) hS)
  have CI : Hid (∀ U x, Below W0.heap.size W0 U → Calls Tryd.prog 54 #[tabV t ve va vw, .int .i64 x] U fun e w' => e = .returned (.bool (inF t.n x)) ∧ Below U.heap.size U w') := fun U x h => isElem_int t ve va vw x U (hT.below (b0.trans (h.mono b0.size)))
  have CH : Hid (latE t [] = 0 → ∀ U (k : Nat), Below W0.heap.size W0 U → k < t.n → Calls Tryd.prog 77 #[tabV t ve va vw, .int .i64 k] U fun e w' => ∃ v, e = .returned v ∧ Rd w' v (intsV (partsL t k)) ∧ Below U.heap.size U w') := fun h0 U k h hk => by
    have hf := (latE_zero h0).1
    have hl := latF_lat (latE_zero h0).2.1
    rw [← parts_list t k (frm_acy hf hl)]
    exact partsOf_any t ve va vw k U (hT.below (b0.trans (h.mono b0.size))) hf hl hk
  obtain ⟨pe, ce, rfl⟩ := hT.e.form
  obtain ⟨pa, ca, rfl⟩ := hT.a.form
  obtain ⟨pw, cw, rfl⟩ := hT.w.form
  have HW0 := Lib.hid hW0
  have HBW : Hid (∀ U, Below W0.heap.size W0 U → Below w.heap.size w U) := fun U h => b0.trans (h.mono b0.size)
  have hes := latE_es t [a]
  obtain ⟨E, hE⟩ : ∃ E, E = latE t [] := ⟨_, rfl⟩
  rw [← hE] at CL hes
  unfold tabV at CL CI CH ⊢
  by_cases hE0 : E = 0
  · have CH2 := Lib.hid (CH.out (by rw [← hE]; exact hE0))
    subst hE0
    rw [if_pos rfl] at hes
    cases hIa : inF t.n a with
    | false =>
      rw [hes]; simp only [List.all_cons, hIa, Bool.false_and]
      clear hT hS hW0 b0 c0 c1 c2 c3 hes hE CH
      obtain ⟨k0, k1, k2, k3⟩ := KS.out _ (Below.refl _ _)
      go_enter Tryd.func34, Tryd.ntmps34
      go_wp2_with fail
      rw [← HW0.out]
      refine (CL.out).mono ?_
      rintro e w2 ⟨rfl, hb⟩
      have HBw2 : Hid (Below W0.heap.size W0 w2) := hb
      clear hb k0 k1 k2 k3
      obtain ⟨k0, k1, k2, k3⟩ := KS.out _ HBw2.out
      go_wp2_with fail
      refine (CI.out _ a HBw2.out).mono ?_
      rintro e w3 ⟨rfl, hb⟩
      have HBw3 := Lib.hid (HBw2.out.trans (hb.mono HBw2.out.size))
      clear hb k0 k1 k2 k3
      rw [hIa]
      clear hIa
      go_wp2
      go_ret2
      exact ⟨_, rfl, Rd.nil _, HBW.out _ HBw3.out⟩
    | true =>
      obtain ⟨k, rfl, hkn⟩ := in_nat hIa
      have hz : latE t [(k : Int)] = 0 := by rw [hes]; simp [hIa]
      rw [hz, if_pos rfl, show (k : Int).toNat = k from rfl]
      have HIA := Lib.hid hIa
      clear hT hS hW0 b0 c0 c1 c2 c3 hes hE CH hIa hz
      obtain ⟨k0, k1, k2, k3⟩ := KS.out _ (Below.refl _ _)
      go_enter Tryd.func34, Tryd.ntmps34
      go_wp2_with fail
      rw [← HW0.out]
      refine (CL.out).mono ?_
      rintro e w2 ⟨rfl, hb⟩
      have HBw2 : Hid (Below W0.heap.size W0 w2) := hb
      clear hb k0 k1 k2 k3
      obtain ⟨k0, k1, k2, k3⟩ := KS.out _ HBw2.out
      go_wp2_with fail
      refine (CI.out _ k HBw2.out).mono ?_
      rintro e w3 ⟨rfl, hb⟩
      have HBw3 := Lib.hid (HBw2.out.trans (hb.mono HBw2.out.size))
      clear hb k0 k1 k2 k3
      rw [HIA.out]
      obtain ⟨k0, k1, k2, k3⟩ := KS.out _ HBw3.out
      go_wp2_with fail
      refine (CH2.out _ k HBw3.out hkn).mono ?_
      rintro e w4 ⟨v4, rfl, hv4, hb⟩
      have HBw4 := Lib.hid (HBw3.out.trans (hb.mono HBw3.out.size))
      clear hb k0 k1 k2 k3
      have HV := Lib.hid hv4
      clear hv4
      go_wp2
      go_ret2
      exact ⟨_, rfl, HV.out, HBW.out _ HBw4.out⟩
  · have gE : ((E : Int) != 0) = true := by rw [bne_iff_ne]; omega
    rw [if_neg hE0] at hes
    rw [hes, if_neg hE0]
    clear hT hS hW0 b0 c0 c1 c2 c3 hes hE hE0 CH CI
    obtain ⟨k0, k1, k2, k3⟩ := KS.out _ (Below.refl _ _)
    go_enter Tryd.func34, Tryd.ntmps34
    go_wp2_with fail
    rw [← HW0.out]
    refine (CL.out).mono ?_
    rintro e w2 ⟨rfl, hb⟩
    have HBw2 : Hid (Below W0.heap.size W0 w2) := hb
    clear hb k0 k1 k2 k3
    go_wp2
    go_ret2
    exact ⟨_, rfl, Rd.nil _, HBW.out _ HBw2.out⟩
end Go.Proofs.YtmooikdodbjgpaaDoor.Or
