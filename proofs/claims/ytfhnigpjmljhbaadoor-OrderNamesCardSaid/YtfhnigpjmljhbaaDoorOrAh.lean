/- The contract of parts. -/
import Derived.Test.YtfhnigpjmljhbaaDoorOrAg
set_option linter.unusedVariables false
set_option linter.unusedSimpArgs false
namespace Go.Proofs.YtfhnigpjmljhbaaDoor.Or
open Go.RowKit Go.Shelf
attribute [local go_sem] Oper.semAt_some

/-- The primes below an element, among some; all of them; the greatest of them, among some; all of these. -/
def parB (t : Tab) (e : Nat) (l : List Nat) : Nat := grp (fun i => l.contains i && bel t.R i e) t.n
def parP (t : Tab) (e i : Nat) : Bool := primeO t.R t.n i && bel t.R i e
def parL (t : Tab) (e : Nat) : Nat := grp (parP t e) t.n
def parM (t : Tab) (e i : Nat) : Bool := !(List.range t.n).any fun c => t.R i c && parP t e c
def parK (t : Tab) (e : Nat) (l : List Nat) : Nat := grp (fun i => l.contains i && parM t e i) t.n
def parG (t : Tab) (e : Nat) : Nat := grp (fun i => parP t e i && parM t e i) t.n
theorem put_yes {n a : Nat} (p : Nat → Bool) (l : List Nat) (ha : a < n) (h : p a = true) : grp (fun i => l.contains i && p i) n ||| 2 ^ a = grp (fun i => (l ++ [a]).contains i && p i) n := by
  rw [grp_one ha, grp_or]
  refine grp_congr fun i _ => ?_
  by_cases e : i = a
  · subst e; simp [h]
  · have e1 : (i == a) = false := by rw [beq_eq_false_iff_ne]; exact e
    simp [e1, e]
theorem put_no {n a : Nat} (p : Nat → Bool) (l : List Nat) (h : p a = false) : grp (fun i => l.contains i && p i) n = grp (fun i => (l ++ [a]).contains i && p i) n := by
  refine grp_congr fun i _ => ?_
  by_cases e : i = a
  · subst e; simp [h]
  · simp [e]
theorem put_nil (p : Nat → Bool) (n : Nat) : grp (fun i => ([] : List Nat).contains i && p i) n = 0 := by
  rw [grp_none n]; exact grp_congr fun i _ => by simp
theorem put_end (q p : Nat → Bool) (n : Nat) : grp (fun i => ((List.range n).filter q).contains i && p i) n = grp (fun i => q i && p i) n := by
  refine grp_congr fun i hi => ?_
  congr 1
  rw [Bool.eq_iff_iff, List.contains_iff_mem, List.mem_filter, List.mem_range]
  exact ⟨fun h => h.2, fun h => ⟨hi, h⟩⟩

theorem par_zero (t : Tab) (e p : Nat) : ((grp (t.R p) t.n &&& parL t e) == 0) = parM t e p := by
  unfold parL parM
  rw [grp_and, Bool.eq_iff_iff, beq_iff_eq, grp_eq_zero, Bool.not_eq_true', List.any_eq_false]
  exact ⟨fun h c hc => by rw [h c (List.mem_range.1 hc)]; simp, fun h c hc => (Bool.not_eq_true _).mp (h c (List.mem_range.2 hc))⟩

/-- The state of parts. -/
structure PaI (w : World) (b x g h : Nat) (V : World) : Prop where
  c0 : V.cell? ⟨w.heap.size, 0, none⟩ = some (.pointer (some ⟨b, 0, none⟩))
  c1 : V.cell? ⟨w.heap.size + 1, 0, none⟩ = some (.int .i64 x)
  c2 : V.cell? ⟨w.heap.size + 2, 0, none⟩ = some (.int .u16 g)
  f2 : V.frozen? ⟨w.heap.size + 2, 0, none⟩ = false
  c3 : V.cell? ⟨w.heap.size + 3, 0, none⟩ = some (.int .u16 h)
  f3 : V.frozen? ⟨w.heap.size + 3, 0, none⟩ = false
  below : Below w.heap.size w V
theorem PaI.diff {w : World} {b x g k : Nat} {A B : World} {Z : Nat → Prop} (h : PaI w b x g k A) (hd : Diff Z A B) (hz : ∀ j, j < w.heap.size + 4 → ¬ Z j) : PaI w b x g k B :=
  ⟨cell_diff h.c0 hd (hz _ (by show _ < _; omega)), cell_diff h.c1 hd (hz _ (by show _ < _; omega)), cell_diff h.c2 hd (hz _ (by show _ < _; omega)), frozen_diff h.c2 h.f2 hd (hz _ (by show _ < _; omega)), cell_diff h.c3 hd (hz _ (by show _ < _; omega)), frozen_diff h.c3 h.f3 hd (hz _ (by show _ < _; omega)), h.below.trans (hd.below h.below.size (fun j hj => hz j (by omega)))⟩
theorem PaI.mono {w : World} {b x g k : Nat} {A B : World} (h : PaI w b x g k A) (hb : Below A.heap.size A B) : PaI w b x g k B :=
  h.diff (Z := fun j => A.heap.size ≤ j) ⟨hb.os, hb.tape, hb.output, hb.size, fun j hj hz => hb.block j hj⟩ (fun j hj => by have : w.heap.size + 3 < A.heap.size := cell_lt h.c3; omega)
theorem PaI.drew {w : World} {b x g k : Nat} {A : World} (h : PaI w b x g k A) : PaI w b x g k A.drew :=
  h.diff (Z := fun _ => False) (Diff.refl _ _).drew (fun _ _ h => h)
theorem PaI.set2 {w : World} {b x g k : Nat} {A : World} (h : PaI w b x g k A) (g' : Nat) : PaI w b x g' k (A.setCell ⟨w.heap.size + 2, 0, none⟩ (.int .u16 g')) := by
  have hd : Diff (fun j => j = w.heap.size + 2) A (A.setCell ⟨w.heap.size + 2, 0, none⟩ (.int .u16 g')) := Diff.setCell (Z := fun j => j = w.heap.size + 2) (Diff.refl _ _) (p := ⟨w.heap.size + 2, 0, none⟩) rfl _
  refine ⟨cell_diff h.c0 hd (by show ¬ _; simp), cell_diff h.c1 hd (by show ¬ _; simp), ?_, ?_, cell_diff h.c3 hd (by show ¬ _; simp), frozen_diff h.c3 h.f3 hd (by show ¬ _; simp), h.below.trans (hd.below h.below.size (fun j hj => by omega))⟩
  · rw [World.cell?_setCell_same' _ _ _ (by rw [h.c2]; rfl)]
  · rw [World.frozen?_setCell]; exact h.f2
theorem PaI.set3 {w : World} {b x g k : Nat} {A : World} (h : PaI w b x g k A) (g' : Nat) : PaI w b x g g' (A.setCell ⟨w.heap.size + 3, 0, none⟩ (.int .u16 g')) := by
  have hd : Diff (fun j => j = w.heap.size + 3) A (A.setCell ⟨w.heap.size + 3, 0, none⟩ (.int .u16 g')) := Diff.setCell (Z := fun j => j = w.heap.size + 3) (Diff.refl _ _) (p := ⟨w.heap.size + 3, 0, none⟩) rfl _
  refine ⟨cell_diff h.c0 hd (by show ¬ _; simp), cell_diff h.c1 hd (by show ¬ _; simp), cell_diff h.c2 hd (by show ¬ _; simp), frozen_diff h.c2 h.f2 hd (by show ¬ _; simp), ?_, ?_, h.below.trans (hd.below h.below.size (fun j hj => by omega))⟩
  · rw [World.cell?_setCell_same' _ _ _ (by rw [h.c3]; rfl)]
  · rw [World.frozen?_setCell]; exact h.f3

set_option maxRecDepth 100000 in
set_option maxHeartbeats 8000000 in
theorem parts_any (b : Nat) (t : Tab) (x : Nat) (w : World) (hW : WalkedAt w b t) (hL : TabOk w) (hT : Lat t.R t.n t.wr) (hA : Acy t.R t.n) (hx : x < t.n) :
    Calls Tryd.prog 78 #[.pointer (some ⟨b, 0, none⟩), .int .i64 x] w fun e w' => e = .returned (.int .u16 (parG t x : Nat)) ∧ Below w.heap.size w w' := by
  obtain ⟨N, hN⟩ : ∃ n : Nat, 8 ≤ n := ⟨8, Nat.le_refl _⟩
  refine (callsIn_wide (n := N)).1 ?_
  have h1n : 1 ≤ N := by omega
  have h1n2 : 1 ≤ N - 1 - 1 := by omega
  obtain ⟨n1, n2⟩ := hW.n12
  have lb := hW.lt
  have htab := hL.lt
  have HWW := Lib.hid hW; have HLL := Lib.hid hL
  obtain ⟨W2, hW2⟩ : ∃ W2, W2 = (((w.alloc (Obj.cells #[Value.pointer (some { block := b, off := 0 })] 68)).alloc (Obj.cells #[Value.int IntKind.i64 ↑x] 3)).alloc (Obj.cells #[Value.int IntKind.u16 0] 72)).alloc (Obj.cells #[Value.int IntKind.u16 0] 72) := ⟨_, rfl⟩
  have b2 : Below w.heap.size w W2 := by rw [hW2]; exact ((((Below.refl _ _).alloc (Nat.le_refl _) _).alloc (by simp) _).alloc (by simp; omega) _).alloc (by simp; omega) _
  have i2 : PaI w b x 0 0 W2 := ⟨by rw [hW2]; simp [go_sem], by rw [hW2]; simp [go_sem], by rw [hW2]; simp [go_sem], by rw [hW2]; simp [go_sem], by rw [hW2]; simp [go_sem], by rw [hW2]; simp [go_sem], b2⟩
  have CR := Lib.hid (primes_any b t W2 (hW.below b2) (hL.below b2) hT hA)
  obtain ⟨G, hG⟩ : ∃ G, G = primG t := ⟨_, rfl⟩
  rw [← hG] at CR
  have hG16 : G < 65536 := by rw [hG]; exact grp_lt16 _ (by omega)
  have hels : elems G 16 = (List.range t.n).filter (primeO t.R t.n) := by rw [hG]; exact elems_grp _ (by omega)
  have HE := Lib.hid hels; have HW2 := Lib.hid hW2; have I2 := Lib.hid i2
  clear hW hL hT hA hG hels hW2 b2 i2
  refine callsIn_of_wp_marks Tryd.func78 rfl trivial ?_ rfl
  simp only [Tryd.ntmps78, List.size_toArray, List.length_cons, List.length_nil, Nat.reduceAdd, Nat.reduceSub, Array.replicate_succ, Array.replicate_zero, List.push_toArray, List.append_toArray, List.nil_append, List.cons_append]
  gi_wp2_with fail
  refine ⟨trivial, ?_⟩
  rw [← HW2.out]
  refine (callsIn_wide.2 CR.out).mono ?_
  rintro e w1 ⟨rfl, hb1⟩
  have I1 := Lib.hid (I2.out.mono hb1)
  clear hb1
  gi_wp2_with (refine ⟨trivial, ?_⟩; gi_at_call 80; refine (callsIn_wide.2 (each_any _ _)).mono ?_; rintro e w' ⟨rfl, rfl⟩)
  obtain ⟨q, hq⟩ : ∃ q, q = w1.heap.size := ⟨_, rfl⟩
  obtain ⟨W5, hW5⟩ : ∃ W5, W5 = w1.alloc (Obj.cells #[Value.int IntKind.u16 ↑G] 72) := ⟨_, rfl⟩
  rw [← hW5, ← hq]
  have i5 : PaI w b x 0 0 W5 := by rw [hW5]; exact I1.out.mono ((Below.refl _ _).alloc (Nat.le_refl _) _)
  have z5 : W5.heap.size = q + 1 := by rw [hW5, hq]; simp
  have e5 : W5.cell? ⟨q, 0, none⟩ = some (.int .u16 G) := by rw [hW5, hq]; simp [go_sem]
  have hqm : w.heap.size + 4 ≤ q := by rw [hq]; have : w.heap.size + 3 < w1.heap.size := cell_lt I1.out.c3; omega
  have Z5 := Lib.hid z5
  have HTB := Lib.hid htab
  clear hW5 z5 hq htab
  refine each_till hN (bg := q) (gv := G) rfl hG16 e5 (HLL.out.below i5.below)
    (fun pre V => PaI w b x (parB t x pre) 0 V) ?hI
    (fun _ _ _ => False) (fun _ _ _ _ h _ => h) (by show PaI w b x (parB t x []) 0 W5; unfold parB; rw [put_nil]; exact i5)
    (fun pre p a' V => PaI w b x (parB t x pre) 0 V ∧
      ∃ v4 v9 v10 v11, a' = { tmps := #[.pointer (some ⟨b, 0, none⟩), .int .i64 x, .pointer (some ⟨w.heap.size, 0, none⟩), .pointer (some ⟨w.heap.size + 1, 0, none⟩), v4, .pointer (some ⟨w.heap.size + 2, 0, none⟩), .pointer (some ⟨w.heap.size + 3, 0, none⟩), .int .i64 p, undef, v9, v10, v11, .int .i64 p, undef, undef, undef, undef, undef, undef, undef, undef, undef, undef, undef, undef, undef, undef, undef, undef, undef, undef, undef, undef, undef, undef, undef, undef, undef, undef, undef], defers := [] })
    ?hAx ?assign ?body ?done ?stop
  case hI =>
    rintro pre A B a1 hd
    have z := Z5.out
    exact a1.diff hd (fun j hj h => by rcases h with h | h <;> omega)
  case hAx =>
    rintro pre p a' A B ⟨a1, ha⟩ hd
    have z := Z5.out
    exact ⟨a1.diff hd (fun j hj h => by rcases h with h | h <;> omega), ha⟩
  case assign =>
    rintro l' pre p V K hpre hh hbnd hK
    gi_wp2
    exact hK _ _ (Keep.refl _ _) ⟨hh, _, _, _, _, rfl⟩
  case body =>
    rintro l' pre p a' V hpre ⟨a1, v4, v9, v10, v11, rfl⟩ hbnd
    have hpe : p ∈ (List.range t.n).filter (primeO t.R t.n) := by
      rw [← HE.out]; obtain ⟨r, hr⟩ := hpre; rw [← hr]; simp
    have hpn : p < t.n := List.mem_range.1 (List.mem_filter.1 hpe).1
    obtain ⟨U, hU⟩ : ∃ U, U = parB t x pre := ⟨_, rfl⟩
    rw [← hU] at a1
    obtain ⟨B, hB⟩ : ∃ B, B = upsG t [p] := ⟨_, rfl⟩
    have C : Hid (∀ W m' o, Below V.heap.size V W → W.cell? ⟨o, 0, none⟩ = some (.int .i64 p) → CallsIn (Fence.wide.inRound l') m' Tryd.prog 46 #[.pointer (some ⟨b, 0, none⟩), .slice (some ⟨o, 0, none⟩) 1 1] W fun e w' => e = .returned (.int .u16 (B : Nat)) ∧ Below W.heap.size W w') := fun W m' o hbW ho => by
      rw [hB]
      exact CallsIn.inRound _ (callsIn_wide.2 (above_any b t _ [p] W (HWW.out.below (a1.below.trans (hbW.mono a1.below.size))) (rdI_one ho) (by intro y hy; simp at hy; omega)))
    have hbit : B.testBit x = bel t.R p x := by rw [hB, upsG_bit t [p] x hx]; simp
    have CH : Hid (∀ W m, CallsIn (Fence.wide.inRound l') m Tryd.prog 65 #[.int .u16 B, .int .i64 x] W fun e w' => e = .returned (.bool (bel t.R p x)) ∧ W = w') := fun W m => by
      rw [← hbit]
      exact CallsIn.inRound _ (callsIn_wide.2 (has_any B x W (by rw [hB]; exact ups_lt t _ n2) (by omega)))
    have c0 := a1.c0; have c1 := a1.c1
    have l0 : w.heap.size < V.heap.size := cell_lt c0
    have l1 : w.heap.size + 1 < V.heap.size := cell_lt c1
    have HA1 := Lib.hid a1
    have hq1 : w.heap.size + 2 ≠ W5.heap.size + 1 := by have := Z5.out; omega
    clear hpe hB hbit hpre hbnd a1
    cases hq : bel t.R p x with
    | false =>
      rw [hq] at CH
      have HN : Hid (parB t x (pre ++ [p]) = U) := by show _ = _; rw [hU]; exact (put_no (fun i => bel t.R i x) pre hq).symm
      clear hq hU
      gi_wp2
      gi_region_with (first | (refine ⟨trivial, ?_⟩; gi_at_call 46; refine (C.out _ _ _ (by repeat (first | exact Below.refl _ _ | refine Below.drew ?_ | refine Below.alloc ?_ (by simp) _)) (by simp [go_sem])).mono ?_; rintro e w' ⟨rfl, hbw⟩; have hbV : Below V.heap.size V w' := (show Below V.heap.size V _ by repeat (first | exact Below.refl _ _ | refine Below.drew ?_ | refine Below.alloc ?_ (by simp) _)).trans (hbw.mono (by simp)); have d1 := (hbV.cell l1).trans c1) | (refine ⟨trivial, ?_⟩; gi_at_call 65; refine (CH.out _ _).mono ?_; rintro e w' ⟨rfl, rfl⟩))
      all_goals
        clear d1
        gi_wp2
        refine ⟨Keep.of_below hbV, (show PaI w b x (parB t x (pre ++ [p])) 0 _ from ?_)⟩
        rw [HN.out]; exact HA1.out.mono hbV
    | true =>
      rw [hq] at CH
      obtain ⟨P, hP⟩ : ∃ P, P = 2 ^ p := ⟨_, rfl⟩
      have hP16 : P < 65536 := by rw [hP]; exact pow_lt16 (by omega)
      have hU16 : U < 65536 := by rw [hU]; exact grp_lt16 _ (by omega)
      have e1 := bits16_or U P hU16 hP16
      obtain ⟨D, hD⟩ : ∃ D, D = U ||| P := ⟨_, rfl⟩
      rw [← hD] at e1
      have HN : Hid (parB t x (pre ++ [p]) = D) := by show _ = _; rw [hD, hU, hP]; exact (put_yes (fun i => bel t.R i x) pre hpn hq).symm
      have COJ : Hid (∀ W m, CallsIn (Fence.wide.inRound l') m Tryd.prog 82 #[.int .i64 p] W fun e w' => e = .returned (.int .u16 (P : Nat)) ∧ W = w') := fun W m => by rw [hP]; exact CallsIn.inRound _ (callsIn_wide.2 (one_any p W (by omega)))
      clear hq hU hP hP16 hU16 hD
      gi_wp2
      gi_region_with (first | (refine ⟨trivial, ?_⟩; gi_at_call 46; refine (C.out _ _ _ (by repeat (first | exact Below.refl _ _ | refine Below.drew ?_ | refine Below.alloc ?_ (by simp) _)) (by simp [go_sem])).mono ?_; rintro e w' ⟨rfl, hbw⟩; have hbV : Below V.heap.size V w' := (show Below V.heap.size V _ by repeat (first | exact Below.refl _ _ | refine Below.drew ?_ | refine Below.alloc ?_ (by simp) _)).trans (hbw.mono (by simp)); have d1 := (hbV.cell l1).trans c1) | (refine ⟨trivial, ?_⟩; gi_at_call 65; refine (CH.out _ _).mono ?_; rintro e w' ⟨rfl, rfl⟩))
      all_goals
        have i' := HA1.out.mono hbV
        have d2 := i'.c2; have g2 := i'.f2
        have HI := Lib.hid i'
        have HK : Hid (Keep (BT W5) V w') := Keep.of_below hbV
        clear hbV hbw i' d1
        gi_wp2
        gi_region_with (refine ⟨trivial, ?_⟩; gi_at_call 82; refine (COJ.out _ _).mono ?_; rintro e w' ⟨rfl, rfl⟩)
      all_goals
        have z := Z5.out; have ht := HTB.out
        refine ⟨?_, (show PaI w b x (parB t x (pre ++ [p])) 0 _ from ?_)⟩
        · repeat (first | exact HK.out | refine Keep.drew ?_ | refine Keep.setCell ?_ (by rintro (h | h | h) <;> simp at h <;> omega) _)
        · rw [HN.out]
          repeat (first | exact HI.out | refine PaI.drew ?_ | refine PaI.set2 (g := U) ?_ _)
  case done =>
    rintro V hi hK
    have hend : parB t x (elems G 16) = parL t x := by rw [HE.out]; exact put_end _ _ _
    rw [hend] at hi
    obtain ⟨LB, hLB⟩ : ∃ LB, LB = parL t x := ⟨_, rfl⟩
    rw [← hLB] at hi
    have c2 := hi.c2
    have hL16 : LB < 65536 := by rw [hLB]; exact grp_lt16 _ (by omega)
    have hels : elems LB 16 = (List.range t.n).filter (parP t x) := by rw [hLB]; exact elems_grp _ (by omega)
    have zv : W5.heap.size < V.heap.size := (Array.getElem?_eq_some_iff.1 hK).1
    have HI := Lib.hid hi; have HLB := Lib.hid hLB; have HE2 := Lib.hid hels; have HK5 := Lib.hid hK
    clear hend hLB hels hi hK e5 hG16
    gi_wp2_with (refine ⟨trivial, ?_⟩; gi_at_call 80; refine (callsIn_wide.2 (each_any _ _)).mono ?_; rintro e w' ⟨rfl, rfl⟩)
    obtain ⟨q2, hq2⟩ : ∃ q2, q2 = V.heap.size := ⟨_, rfl⟩
    obtain ⟨W6, hW6⟩ : ∃ W6, W6 = V.alloc (Obj.cells #[Value.int IntKind.u16 ↑LB] 72) := ⟨_, rfl⟩
    rw [← hW6, ← hq2]
    have b6 : Below V.heap.size V W6 := by rw [hW6]; exact (Below.refl _ _).alloc (Nat.le_refl _) _
    have i6 : PaI w b x LB 0 W6 := HI.out.mono b6
    have k6 : W6.heap[W5.heap.size]? = some (.deferred (some [])) := (b6.block _ zv).trans HK5.out
    have z6 : W6.heap.size = q2 + 1 := by rw [hW6, hq2]; simp
    have e6 : W6.cell? ⟨q2, 0, none⟩ = some (.int .u16 LB) := by rw [hW6, hq2]; simp [go_sem]
    have Z6 := Lib.hid z6
    have h56 : W5.heap.size < q2 := by omega
    have H56 := Lib.hid h56
    clear hW6 z6 hq2 b6 c2 zv h56
    refine each_till hN (bg := q2) (gv := LB) rfl hL16 e6 (HLL.out.below i6.below)
      (fun pre V => PaI w b x LB (parK t x pre) V ∧ V.heap[W5.heap.size]? = some (.deferred (some []))) ?hI2
      (fun _ _ _ => False) (fun _ _ _ _ h _ => h) (by refine ⟨(show PaI w b x LB (parK t x []) W6 from ?_), k6⟩; unfold parK; rw [put_nil]; exact i6)
      (fun pre p a' V => (PaI w b x LB (parK t x pre) V ∧ V.heap[W5.heap.size]? = some (.deferred (some []))) ∧
        ∃ v4 v7 v9 v10 v11 v12 v13 v14 v15 v16 v17 v18 v19 v20 v21 v22 v23 v24, a' = { tmps := #[.pointer (some ⟨b, 0, none⟩), .int .i64 x, .pointer (some ⟨w.heap.size, 0, none⟩), .pointer (some ⟨w.heap.size + 1, 0, none⟩), v4, .pointer (some ⟨w.heap.size + 2, 0, none⟩), .pointer (some ⟨w.heap.size + 3, 0, none⟩), v7, .int .i64 p, v9, v10, v11, v12, v13, v14, v15, v16, v17, v18, v19, v20, v21, v22, v23, v24, .int .i64 p, undef, undef, undef, undef, undef, undef, undef, undef, undef, undef, undef, undef, undef, undef], defers := [] })
      ?hAx2 ?assign2 ?body2 ?done2 ?stop2
    case hI2 =>
      rintro pre A B ⟨a1, a2⟩ hd
      have z := Z6.out; have z5 := Z5.out; have z56 := H56.out
      exact ⟨a1.diff hd (fun j hj h => by rcases h with h | h <;> omega), (hd.block _ (Array.getElem?_eq_some_iff.1 a2).1 (fun h => by rcases h with h | h <;> omega)).trans a2⟩
    case hAx2 =>
      rintro pre p a' A B ⟨⟨a1, a2⟩, ha⟩ hd
      have z := Z6.out; have z5 := Z5.out; have z56 := H56.out
      exact ⟨⟨a1.diff hd (fun j hj h => by rcases h with h | h <;> omega), (hd.block _ (Array.getElem?_eq_some_iff.1 a2).1 (fun h => by rcases h with h | h <;> omega)).trans a2⟩, ha⟩
    case assign2 =>
      rintro l' pre p V K hpre hh hbnd hK
      gi_wp2
      exact hK _ _ (Keep.refl _ _) ⟨hh, _, _, _, _, _, _, _, _, _, _, _, _, _, _, _, _, _, _, rfl⟩
    case body2 =>
      rintro l' pre p a' V2 hpre ⟨⟨a1, a2⟩, v4, v7, v9, v10, v11, v12, v13, v14, v15, v16, v17, v18, v19, v20, v21, v22, v23, v24, rfl⟩ hbnd
      have hpe : p ∈ (List.range t.n).filter (parP t x) := by
        rw [← HE2.out]; obtain ⟨r, hr⟩ := hpre; rw [← hr]; simp
      have hpn : p < t.n := List.mem_range.1 (List.mem_filter.1 hpe).1
      have hrow := (HWW.out.below a1.below).rows p hpn
      obtain ⟨r, hr⟩ : ∃ r, r = grp (t.R p) t.n := ⟨_, rfl⟩
      rw [← hr] at hrow
      have hix := ix_row b p (by omega)
      have e1 := bits16_and r LB (by rw [hr]; exact grp_lt16 _ (by omega)) hL16
      obtain ⟨A, hA⟩ : ∃ A, A = r &&& LB := ⟨_, rfl⟩
      rw [← hA] at e1
      have hA0 : ((A : Int) == 0) = parM t x p := by
        have : (A == 0) = parM t x p := by rw [hA, hr, HLB.out]; exact par_zero t x p
        rw [← this, Bool.eq_iff_iff, beq_iff_eq, beq_iff_eq]; omega
      obtain ⟨U, hU⟩ : ∃ U, U = parK t x pre := ⟨_, rfl⟩
      rw [← hU] at a1
      have c0 := a1.c0; have c2 := a1.c2; have c3 := a1.c3; have f3 := a1.f3
      have HA1 := Lib.hid a1; have HA2 := Lib.hid a2
      have HU := Lib.hid hU
      clear hpe hr hA hpre hbnd a1 a2 hU
      cases hq : parM t x p with
      | false =>
        rw [hq] at hA0
        have HN : Hid (parK t x (pre ++ [p]) = U) := by show _ = _; rw [HU.out]; exact (put_no (parM t x) pre hq).symm
        clear hq
        gi_wp2
        refine region_quiet_round rfl (by kernel_rfl) (by kernel_rfl) (by kernel_rfl) ?_
        repeat (quiet_step_in (fail))
        refine wpQuietIn_nil ?_
        intro _ hw'
        obtain ⟨nq, hw''⟩ := hw'
        subst hw''
        gi_wp2
        refine ⟨Keep.of_below (below_drewAt _ _ _), (show PaI w b x LB (parK t x (pre ++ [p])) _ from ?_), HA2.out⟩
        rw [HN.out]; exact HA1.out.mono (below_drewAt _ _ _)
      | true =>
        rw [hq] at hA0
        obtain ⟨P, hP⟩ : ∃ P, P = 2 ^ p := ⟨_, rfl⟩
        have hP16 : P < 65536 := by rw [hP]; exact pow_lt16 (by omega)
        have hU16 : U < 65536 := by rw [HU.out]; exact grp_lt16 _ (by omega)
        have e2 := bits16_or U P hU16 hP16
        obtain ⟨D, hD⟩ : ∃ D, D = U ||| P := ⟨_, rfl⟩
        rw [← hD] at e2
        have HN : Hid (parK t x (pre ++ [p]) = D) := by show _ = _; rw [hD, HU.out, hP]; exact (put_yes (parM t x) pre hpn hq).symm
        have COJ : Hid (∀ W m, CallsIn (Fence.wide.inRound l') m Tryd.prog 82 #[.int .i64 p] W fun e w' => e = .returned (.int .u16 (P : Nat)) ∧ W = w') := fun W m => by rw [hP]; exact CallsIn.inRound _ (callsIn_wide.2 (one_any p W (by omega)))
        clear hq hP hP16 hU16 hD
        gi_wp2
        refine region_quiet_round rfl (by kernel_rfl) (by kernel_rfl) (by kernel_rfl) ?_
        repeat (quiet_step_in (fail))
        refine wpQuietIn_nil ?_
        intro _ hw'
        obtain ⟨nq, hw''⟩ := hw'
        subst hw''
        have i' := HA1.out.mono (below_drewAt V2.heap.size V2 nq)
        have d3 := i'.c3; have g3 := i'.f3
        have HI2 := Lib.hid i'
        have HK2 : Hid (Keep (BT W6) V2 (V2.drewN nq)) := Keep.of_below (below_drewAt _ _ _)
        have HD2 : Hid ((V2.drewN nq).heap[W5.heap.size]? = some (.deferred (some []))) := HA2.out
        obtain ⟨V3, hV3⟩ : ∃ V3, V3 = V2.drewN nq := ⟨_, rfl⟩
        rw [← hV3] at d3 g3 HI2 HK2 HD2 ⊢
        clear i' c0 c2 c3 f3 hrow hix hV3
        gi_wp2
        gi_region_with (refine ⟨trivial, ?_⟩; gi_at_call 82; refine (COJ.out _ _).mono ?_; rintro e w' ⟨rfl, rfl⟩)
        all_goals
          have z := Z6.out; have ht := HTB.out; have z5 := Z5.out; have z56 := H56.out
          refine ⟨?_, (show PaI w b x LB (parK t x (pre ++ [p])) _ from ?_), ?_⟩
          · repeat (first | exact HK2.out | refine Keep.drew ?_ | refine Keep.setCell ?_ (by rintro (h | h | h) <;> simp at h <;> omega) _)
          · rw [HN.out]
            repeat (first | exact HI2.out | refine PaI.drew ?_ | refine PaI.set3 (k := U) ?_ _)
          · exact ((show Diff (fun j => j = w.heap.size + 3) V3 _ from by repeat (first | exact Diff.refl _ _ | refine Diff.drew ?_ | refine Diff.setCell (Z := fun j => j = w.heap.size + 3) (p := ⟨w.heap.size + 3, 0, none⟩) ?_ rfl _)).block _ (Array.getElem?_eq_some_iff.1 HD2.out).1 (by omega)).trans HD2.out
    case done2 =>
      rintro V2 ⟨a1, a2⟩ hK6
      have hend : parK t x (elems LB 16) = parG t x := by rw [HE2.out]; exact put_end _ _ _
      rw [hend] at a1
      have c3 := a1.c3
      have HA1 := Lib.hid a1; have HA2 := Lib.hid a2
      clear hend a1 a2
      gi_wp2
      have z := Z6.out; have z5 := Z5.out; have z56 := H56.out
      refine ⟨by simp, .inl ⟨_, _, rfl, run_takeDeferred hK6, ?_⟩⟩
      have hd1 := (Diff.refl (fun k => k = W5.heap.size ∨ k = W6.heap.size) V2).putObj (l := W6.heap.size) (.inr rfl) (Obj.deferred none)
      have hk5 : (V2.putObj W6.heap.size (Obj.deferred none)).heap[W5.heap.size]? = some (.deferred (some [])) := by rw [World.putObj_heap_other (by omega)]; exact HA2.out
      refine ⟨by simp, .inl ⟨_, _, rfl, run_takeDeferred hk5, ?_⟩⟩
      have hd2 := hd1.putObj (l := W5.heap.size) (.inl rfl) (Obj.deferred none)
      exact ⟨.int .u16 (parG t x : Nat), by simp [results, Tryd.results78, go_sem], rfl, HA1.out.below.trans (hd2.below HA1.out.below.size (fun j hj hm => by omega))⟩
    case stop2 => rintro c pre x V hpre h; exact h.elim
  case stop => rintro c pre x V hpre h; exact h.elim
end Go.Proofs.YtfhnigpjmljhbaaDoor.Or
