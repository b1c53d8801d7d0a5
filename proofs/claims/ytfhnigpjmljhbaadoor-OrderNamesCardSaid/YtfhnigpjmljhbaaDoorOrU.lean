/- The contract of join. -/
import Derived.Test.YtfhnigpjmljhbaaDoorOrRa
import Derived.Stop.RegionWithIn
set_option linter.unusedVariables false
set_option linter.unusedSimpArgs false
namespace Go.Proofs.YtfhnigpjmljhbaaDoor.Or
open Go.RowKit Go.Shelf
attribute [local go_sem] Oper.semAt_some

theorem cell?_setCell_nb {V : World} {p : Addr} {b o : Nat} (v : Value) (h : b ≠ p.block) : (V.setCell p v).cell? ⟨b, o, none⟩ = V.cell? ⟨b, o, none⟩ := World.cell?_of_block (w := V) (Below.heap_setCell _ _ _ _ h)
theorem cell?_putObj_nb {V : World} {l : Nat} {b o : Nat} (x : Obj) (h : b ≠ l) : (V.putObj l x).cell? ⟨b, o, none⟩ = V.cell? ⟨b, o, none⟩ := World.cell?_of_block (w := V) (World.putObj_heap_other h)
theorem find_first {p : Nat → Bool} {pre r : List Nat} {x : Nat} (h : ∀ y ∈ pre, p y = false) (hx : p x = true) : (pre ++ [x] ++ r).find? p = some x := by
  rw [List.append_assoc, List.find?_append, List.find?_eq_none.2 (fun y hy => by rw [h y hy]; simp)]
  simp [hx]
theorem rdI_new {W : World} {b : Nat} {ns : List Nat} {cs : Array Value} {T : TypeId} {fr : Nat × Nat} {cap : Nat} (h : W.heap[b]? = some (.cells cs T fr)) (hc : cs.toList = (ints ns).map (Value.int .i64)) (hl : ns.length ≤ 1000) (hcap : ns.length ≤ cap) : RdI W (.slice (some ⟨b, 0, none⟩) ns.length cap) (ints ns) := by
  have := rd_block (cap := cap) h hc (by simp [ints]; omega) (by simp [ints]; omega)
  rw [List.length_map, ints_length] at this
  exact this

theorem rdI_one {W : World} {o x : Nat} (h : W.cell? ⟨o, 0, none⟩ = some (.int .i64 x)) : RdI W (.slice (some ⟨o, 0, none⟩) 1 1) (ints [x]) :=
  ⟨_, _, rfl, by simp [ints], .inr ⟨o, 0, rfl, fun i hi => by
    have h0 : i = 0 := by simp [ints] at hi; omega
    subst h0; simpa [ints] using h⟩⟩

set_option maxRecDepth 100000 in
set_option maxHeartbeats 4000000 in
theorem join_any (b : Nat) (t : Tab) (a c : Nat) (w : World) (hW : WalkedAt w b t) (hL : TabOk w) (ha : a < t.n) (hc : c < t.n) :
    Calls Tryd.prog 64 #[.pointer (some ⟨b, 0, none⟩), .int .i64 a, .int .i64 c] w fun e w' => e = .returned (.tuple #[.int .i64 ((joinO t.R t.n a c).getD 0), .bool (joinO t.R t.n a c).isSome]) ∧ Below w.heap.size w w' := by
  obtain ⟨n, hn⟩ : ∃ n : Nat, 8 ≤ n := ⟨8, Nat.le_refl _⟩
  refine (callsIn_wide (n := n)).1 ?_
  have h1n : 1 ≤ n := by omega
  have h1n2 : 1 ≤ n - 1 - 1 := by omega
  have CA : Hid (∀ W v l, WalkedAt W b t → RdI W v (ints l) → (∀ x ∈ l, x < t.n) → Calls Tryd.prog 46 #[.pointer (some ⟨b, 0, none⟩), v] W fun e w' => e = .returned (.int .u16 (upsG t l : Nat)) ∧ Below W.heap.size W w') := fun W v l h1 h2 h3 => above_any b t v l W h1 h2 h3
  refine callsIn_of_wp_marks Tryd.func64 rfl trivial ?_ rfl
  simp only [Tryd.ntmps64, List.size_toArray, List.length_cons, List.length_nil, Nat.reduceAdd, Nat.reduceSub, Array.replicate_succ, Array.replicate_zero, List.push_toArray, List.append_toArray, List.nil_append, List.cons_append]
  obtain ⟨m, hm⟩ : ∃ m, m = w.heap.size := ⟨_, rfl⟩
  have htab : 1 < m := by rw [hm]; exact hL.lt
  have hbm : b < m := by rw [hm]; exact hW.lt
  obtain ⟨W4, hW4⟩ : ∃ W4, W4 = ((((w.alloc (Obj.cells #[Value.pointer (some { block := b, off := 0 })] 68)).alloc (Obj.cells #[Value.int IntKind.i64 0] 3)).alloc (Obj.cells #[Value.bool false] 4)).alloc (Obj.cells #[Value.int IntKind.i64 ↑a, Value.int IntKind.i64 ↑c] 3)) := ⟨_, rfl⟩
  have b4 : Below w.heap.size w W4 := by rw [hW4]; exact (((((Below.refl _ _).alloc (Nat.le_refl _) _).alloc (by simp) _).alloc (by simp; omega) _).alloc (by simp; omega) _)
  have z4 : W4.heap.size = m + 4 := by rw [hW4, hm]; simp
  have p4 : W4.cell? ⟨m, 0, none⟩ = some (.pointer (some ⟨b, 0, none⟩)) := by rw [hW4, hm]; simp [go_sem]
  have r4 : W4.cell? ⟨m + 1, 0, none⟩ = some (.int .i64 0) := by rw [hW4, hm]; simp [go_sem]
  have rf4 : W4.frozen? ⟨m + 1, 0, none⟩ = false := by rw [hW4, hm]; simp [go_sem]
  have k4 : W4.cell? ⟨m + 2, 0, none⟩ = some (.bool false) := by rw [hW4, hm]; simp [go_sem]
  have kf4 : W4.frozen? ⟨m + 2, 0, none⟩ = false := by rw [hW4, hm]; simp [go_sem]
  have s4 : RdI W4 (.slice (some ⟨w.heap.size + 1 + 1 + 1, 0, none⟩) 2 2) (ints [a, c]) := by
    refine rdI_new (ns := [a, c]) (cs := #[Value.int IntKind.i64 ↑a, Value.int IntKind.i64 ↑c]) (T := 3) (fr := (0, 0)) ?_ (by simp [ints]) (by simp) (by simp)
    rw [hW4]
    have := heap_alloc_new ((((w.alloc (Obj.cells #[Value.pointer (some { block := b, off := 0 })] 68)).alloc (Obj.cells #[Value.int IntKind.i64 0] 3)).alloc (Obj.cells #[Value.bool false] 4))) (Obj.cells #[Value.int IntKind.i64 ↑a, Value.int IntKind.i64 ↑c] 3)
    simpa using this
  have C1 := CA.out W4 _ [a, c] (hW.below b4) s4 (by intro x hx; simp at hx; rcases hx with rfl | rfl <;> assumption)
  have HW := Lib.hid hW; have HM := Lib.hid hm; have HL := Lib.hid hL; have H4 := Lib.hid hW4; have HB4 := Lib.hid b4; have HC1 := Lib.hid C1
  obtain ⟨J, hJ⟩ : ∃ J, J = joinO t.R t.n a c := ⟨_, rfl⟩
  rw [← hJ]
  have HJ := Lib.hid hJ
  clear hJ hm hW4 b4 s4 C1 hW hL
  gi_wp2_with fail
  refine ⟨trivial, ?_⟩
  rw [← H4.out]
  refine (callsIn_wide.2 HC1.out).mono ?_
  rintro e w1 ⟨rfl, hb1⟩
  obtain ⟨G, hG⟩ : ∃ G, G = upsG t [a, c] := ⟨_, rfl⟩
  rw [← hG]
  have HG := Lib.hid hG
  clear hG
  have z1 := hb1.size
  have p1 := (hb1.cell (cell_lt p4)).trans p4
  have r1 := (hb1.cell (cell_lt r4)).trans r4
  have rf1 := (hb1.frozen (cell_lt r4)).trans rf4
  have k1 := (hb1.cell (cell_lt k4)).trans k4
  have kf1 := (hb1.frozen (cell_lt k4)).trans kf4
  have bw1 : Below w.heap.size w w1 := HB4.out.trans (hb1.mono HB4.out.size)
  gi_wp2_with (refine ⟨trivial, ?_⟩; gi_at_call 80; refine (callsIn_wide.2 (each_any _ _)).mono ?_; rintro e w' ⟨rfl, rfl⟩)
  obtain ⟨q, hq⟩ : ∃ q, q = w1.heap.size := ⟨_, rfl⟩
  obtain ⟨W5, hW5⟩ : ∃ W5, W5 = (w1.alloc (Obj.cells #[Value.int IntKind.u16 ↑G] 72)).alloc (Obj.cells #[Value.int IntKind.u16 ↑G] 72) := ⟨_, rfl⟩
  rw [← hW5, ← hq, ← HM.out]
  have b5' : Below w1.heap.size w1 W5 := by rw [hW5]; exact ((Below.refl _ _).alloc (Nat.le_refl _) _).alloc (by simp) _
  have z5 : W5.heap.size = q + 2 := by rw [hW5, hq]; simp
  have G5 : W5.cell? ⟨q, 0, none⟩ = some (.int .u16 G) := by rw [hW5, hq]; simp [go_sem]
  have E5 : W5.cell? ⟨q + 1, 0, none⟩ = some (.int .u16 G) := by rw [hW5, hq]; simp [go_sem]
  have hqm : m + 4 ≤ q := by rw [hq]; omega
  have P5 : W5.cell? ⟨m, 0, none⟩ = some (.pointer (some ⟨b, 0, none⟩)) := (b5'.cell (by show m < _; omega)).trans p1
  have R5 : W5.cell? ⟨m + 1, 0, none⟩ = some (.int .i64 0) := (b5'.cell (by show m + 1 < _; omega)).trans r1
  have RF5 : W5.frozen? ⟨m + 1, 0, none⟩ = false := (b5'.frozen (p := ⟨m + 1, 0, none⟩) (by show m + 1 < _; omega)).trans rf1
  have K5 : W5.cell? ⟨m + 2, 0, none⟩ = some (.bool false) := (b5'.cell (by show m + 2 < _; omega)).trans k1
  have KF5 : W5.frozen? ⟨m + 2, 0, none⟩ = false := (b5'.frozen (p := ⟨m + 2, 0, none⟩) (by show m + 2 < _; omega)).trans kf1
  have b5 : Below w.heap.size w W5 := bw1.trans (b5'.mono bw1.size)
  have t5 : TabOk W5 := HL.out.block (b5.block _ (by rw [← HM.out]; exact htab))
  have n12 := HW.out.n12
  have hG16 : G < 65536 := by rw [HG.out]; exact ups_lt t _ n12.2
  have hels : elems G 16 = ups t.R t.n [a, c] := by rw [HG.out]; exact elems_ups t.R [a, c] (by omega)
  have HE := Lib.hid hels; have Z5 := Lib.hid z5
  clear hW5 hq hb1 p1 r1 rf1 k1 kf1 p4 r4 rf4 k4 kf4 b5' bw1 z1 z4 hels z5
  refine range_till (F := Fence.wide) (gf := 112) (lb := #[.pointer (some ⟨q + 1, 0, none⟩)]) (n := n) rfl (by omega) rfl trivial (enters_of Tryd.func112 (by kernel_rfl) rfl)
    (each_iter (n - 1) (by omega) (q + 1) G W5 hG16 E5 t5) (Below.refl _ _) (fun _ => rfl)
    (fun k => k = q + 2 ∨ k = q + 3) ?hZ ?hZ0 ?hZ1 (fun k => k = 1 ∨ k = q + 2 ∨ k = q + 3) ?hY ?hY0 ?hY1
    (fun pre V => (V.cell? ⟨m, 0, none⟩ = some (.pointer (some ⟨b, 0, none⟩)) ∧ V.cell? ⟨m + 1, 0, none⟩ = some (.int .i64 0) ∧ V.frozen? ⟨m + 1, 0, none⟩ = false ∧ V.cell? ⟨m + 2, 0, none⟩ = some (.bool false) ∧ V.frozen? ⟨m + 2, 0, none⟩ = false ∧ V.cell? ⟨q, 0, none⟩ = some (.int .u16 G)) ∧ Below w.heap.size w V ∧ Hid (∀ x ∈ pre, ((ups t.R t.n [a, c]).all fun y => bel t.R x y) = false)) ?hI
    (fun cd pre V => cd = .ret ∧ ∃ j : Nat, joinO t.R t.n a c = some j ∧ V.cell? ⟨m + 1, 0, none⟩ = some (.int .i64 j) ∧ V.cell? ⟨m + 2, 0, none⟩ = some (.bool true) ∧ Below w.heap.size w V) ?hIx ⟨⟨P5, R5, RF5, K5, KF5, G5⟩, b5, fun x hx => by simp at hx⟩
    (fun pre x a' V => ((V.cell? ⟨m, 0, none⟩ = some (.pointer (some ⟨b, 0, none⟩)) ∧ V.cell? ⟨m + 1, 0, none⟩ = some (.int .i64 0) ∧ V.frozen? ⟨m + 1, 0, none⟩ = false ∧ V.cell? ⟨m + 2, 0, none⟩ = some (.bool false) ∧ V.frozen? ⟨m + 2, 0, none⟩ = false ∧ V.cell? ⟨q, 0, none⟩ = some (.int .u16 G)) ∧ Below w.heap.size w V ∧ Hid (∀ x ∈ pre, ((ups t.R t.n [a, c]).all fun y => bel t.R x y) = false)) ∧
      a' = { tmps := #[.pointer (some ⟨b, 0, none⟩), .int .i64 a, .int .i64 c, .pointer (some ⟨m, 0, none⟩), undef, undef, .pointer (some ⟨m + 1, 0, none⟩), .pointer (some ⟨m + 1 + 1, 0, none⟩), .pointer (some ⟨q, 0, none⟩), .int .i64 x, .pointer (some ⟨b, 0, none⟩), .int .i64 a, .int .i64 c, .slice (some ⟨m + 1 + 1 + 1, 0, none⟩) 2 2, .int .u16 G, .int .u16 G, .func (.func 112) #[] #[.pointer (some ⟨q + 1, 0, none⟩)], .int .i64 x, undef, undef, undef, undef, undef, undef, undef, undef], defers := [] })
    ?hAx ?assign ?body ?hYb ?done ?stop
  case hZ => rintro W1 h1 k hk; exact hk.elim
  case hZ0 => have := Z5.out; omega
  case hZ1 => have := Z5.out; omega
  case hY => rintro W1 h1 k hk; have := Z5.out; have hk' : k = 1 := hk; exact ⟨.inl hk', by omega⟩
  case hY0 => have := Z5.out; omega
  case hY1 => have := Z5.out; omega
  case hYb => rintro W1 h1 k hk; have := Z5.out; rcases hk with hk | hk | hk
              · exact .inl hk
              · exact .inr (by omega)
              · exact .inr (by omega)
  case hI =>
    rintro pre A B ⟨⟨a1, a2, a3, a4, a5, a6⟩, a7, a8⟩ hd
    have e := HM.out
    exact ⟨⟨cell_diff a1 hd (by omega), cell_diff a2 hd (by omega), frozen_diff a2 a3 hd (by omega), cell_diff a4 hd (by omega), frozen_diff a4 a5 hd (by omega), cell_diff a6 hd (by omega)⟩, a7.trans (hd.below a7.size (by omega)), a8⟩
  case hIx =>
    rintro cd pre A B ⟨h0, j, h1, h2, h3, h4⟩ hd
    have e := HM.out
    exact ⟨h0, j, h1, cell_diff h2 hd (by omega), cell_diff h3 hd (by omega), h4.trans (hd.below h4.size (by omega))⟩
  case hAx =>
    rintro pre x a' A B ⟨⟨⟨a1, a2, a3, a4, a5, a6⟩, a7, a8⟩, ha⟩ hd
    have e := HM.out
    exact ⟨⟨⟨cell_diff a1 hd (by omega), cell_diff a2 hd (by omega), frozen_diff a2 a3 hd (by omega), cell_diff a4 hd (by omega), frozen_diff a4 a5 hd (by omega), cell_diff a6 hd (by omega)⟩, a7.trans (hd.below a7.size (by omega)), a8⟩, ha⟩
  case assign =>
    rintro l' pre x V K hpre hh hbnd hK
    gi_wp2
    exact hK _ _ (Keep.refl _ _) ⟨hh, rfl⟩
  case body =>
    rintro l' pre x a' V hpre ⟨⟨⟨a1, a2, a3, a4, a5, a6⟩, a7, a8⟩, rfl⟩ hbnd
    have hxe : x ∈ ups t.R t.n [a, c] := by
      rw [← HE.out]; obtain ⟨r, hr⟩ := hpre; rw [← hr]; simp
    have hxn := (mem_ups.1 hxe).1
    obtain ⟨B, hB⟩ : ∃ B, B = upsG t [x] := ⟨_, rfl⟩
    have hWV : WalkedAt V b t := HW.out.below a7
    have C : Hid (∀ W m' o, Below V.heap.size V W → W.cell? ⟨o, 0, none⟩ = some (.int .i64 x) → CallsIn (Fence.wide.inRound l') m' Tryd.prog 46 #[.pointer (some ⟨b, 0, none⟩), .slice (some ⟨o, 0, none⟩) 1 1] W fun e w' => e = .returned (.int .u16 (B : Nat)) ∧ Below W.heap.size W w') := fun W m' o hbW ho => by
      rw [hB]
      exact CallsIn.inRound _ (callsIn_wide.2 (CA.out W _ [x] (hWV.below hbW) (rdI_one ho) (by intro y hy; simp at hy; omega)))
    have hB16 : B < 65536 := by rw [hB]; exact ups_lt t _ n12.2
    have e1 := bits16_andNot G B hG16 hB16
    obtain ⟨D, hD⟩ : ∃ D, D = G &&& (65535 - B) := ⟨_, rfl⟩
    rw [← hD] at e1
    have hDq : (((D : Nat) : Int) == 0) = (ups t.R t.n [a, c]).all fun y => bel t.R x y := by
      have h1 := below_all t.R (n := t.n) (by omega) [a, c] x
      have h2 : B = grp (bel t.R x) t.n := by rw [hB]; exact grp_congr fun i _ => by simp
      rw [← h1, hD, HG.out, h2]
      show _ = ((upsG t [a, c] &&& (65535 - grp (bel t.R x) t.n)) == 0)
      rw [Bool.eq_iff_iff, beq_iff_eq, beq_iff_eq]; omega
    have hm1 : m < V.heap.size := cell_lt a1
    have hm2 : m + 1 < V.heap.size := cell_lt a2
    have hm3 : m + 2 < V.heap.size := cell_lt a4
    have hqV : q < V.heap.size := cell_lt a6
    clear hD hB hB16 hxn hWV
    cases hq : (ups t.R t.n [a, c]).all fun y => bel t.R x y with
    | true =>
      rw [hq] at hDq
      have HJX : Hid (joinO t.R t.n a c = some x) := by
        show _ = _
        obtain ⟨r, hr⟩ := hpre
        rw [HE.out] at hr
        unfold joinO leastF
        have := find_first (p := fun j => (ups t.R t.n [a, c]).all fun c => bel t.R j c) (r := r) (pre := pre) (x := x) a8.out hq
        rw [hr] at this; exact this
      clear hq hxe
      gi_wp2
      gi_region_with (refine ⟨trivial, ?_⟩; gi_at_call 46; refine (C.out _ _ _ (by repeat (first | exact Below.refl _ _ | refine Below.drew ?_ | refine Below.alloc ?_ (by simp) _)) (by simp [go_sem])).mono ?_; rintro e w' ⟨rfl, hbw⟩; have hx1 : w'.cell? ⟨q, 0, none⟩ = some (.int .u16 G) := (hbw.cell (by simp; omega)).trans (by simp [go_sem, a6, hqV]); have hbV : Below V.heap.size V w' := (show Below V.heap.size V _ by repeat (first | exact Below.refl _ _ | refine Below.drew ?_ | refine Below.alloc ?_ (by simp) _)).trans (hbw.mono (by simp)))
      all_goals
        have c1 := (hbV.cell (show m + 1 < _ from hm2)).trans a2
        have c2 := (hbV.frozen (p := ⟨m + 1, 0, none⟩) (show m + 1 < _ from hm2)).trans a3
        have c3 := (hbV.cell (show m + 2 < _ from hm3)).trans a4
        have c4 := (hbV.frozen (p := ⟨m + 2, 0, none⟩) (show m + 2 < _ from hm3)).trans a5
        have HB := Lib.hid (a7.trans (hbV.mono a7.size))
        have HK : Hid (Keep (fun k => k = 1 ∨ k = q + 2 ∨ k = q + 3) V w') := Keep.of_below hbV
        clear hbV hbw hx1 a1 a2 a3 a4 a5 a6 a7
        gi_wp2
        refine ⟨(HK.out.setCell (by simp; omega) _).setCell (by simp; omega) _, rfl, x, HJX.out, ?_, ?_, ?_⟩
        · rw [cell?_setCell_nb _ (by simp), World.cell?_setCell_same' _ _ _ (by rw [c1]; rfl)]
        · rw [World.cell?_setCell_same' _ _ _ (by rw [cell?_setCell_nb _ (by simp), c3]; rfl)]
        · exact (HB.out.setCell (by have := HM.out; simp; omega) _).setCell (by have := HM.out; simp; omega) _
    | false =>
      rw [hq] at hDq
      have HPX : Hid (∀ y ∈ pre ++ [x], ((ups t.R t.n [a, c]).all fun z => bel t.R y z) = false) := fun y hy => by
        rcases List.mem_append.1 hy with hy | hy
        · exact a8.out y hy
        · rw [List.mem_singleton.1 hy]; exact hq
      clear hq hxe
      gi_wp2
      gi_region_with (refine ⟨trivial, ?_⟩; gi_at_call 46; refine (C.out _ _ _ (by repeat (first | exact Below.refl _ _ | refine Below.drew ?_ | refine Below.alloc ?_ (by simp) _)) (by simp [go_sem])).mono ?_; rintro e w' ⟨rfl, hbw⟩; have hx1 : w'.cell? ⟨q, 0, none⟩ = some (.int .u16 G) := (hbw.cell (by simp; omega)).trans (by simp [go_sem, a6, hqV]); have hbV : Below V.heap.size V w' := (show Below V.heap.size V _ by repeat (first | exact Below.refl _ _ | refine Below.drew ?_ | refine Below.alloc ?_ (by simp) _)).trans (hbw.mono (by simp)))
      all_goals
        have c1 := (hbV.cell (show m + 1 < _ from hm2)).trans a2
        have c2 := (hbV.frozen (p := ⟨m + 1, 0, none⟩) (show m + 1 < _ from hm2)).trans a3
        have c3 := (hbV.cell (show m + 2 < _ from hm3)).trans a4
        have c4 := (hbV.frozen (p := ⟨m + 2, 0, none⟩) (show m + 2 < _ from hm3)).trans a5
        have c0 := (hbV.cell (show m < _ from hm1)).trans a1
        have c6 := (hbV.cell (show q < _ from hqV)).trans a6
        have HB := Lib.hid (a7.trans (hbV.mono a7.size))
        have HK : Hid (Keep (fun k => k = 1 ∨ k = q + 2 ∨ k = q + 3) V w') := Keep.of_below hbV
        clear hbV hbw hx1 a1 a2 a3 a4 a5 a6 a7
        gi_wp2
        exact ⟨HK.out, ⟨c0, c1, c2, c3, c4, c6⟩, HB.out, HPX⟩
  case done =>
    rintro V ⟨⟨a1, a2, a3, a4, a5, a6⟩, a7, a8⟩ hK
    have HN : Hid (J = none) := by
      show _ = _
      rw [HJ.out]
      unfold joinO leastF
      rw [List.find?_eq_none]
      intro y hy
      rw [a8.out y (by rw [HE.out]; exact hy)]; simp
    have hk1 : m + 1 ≠ W5.heap.size := by have := Z5.out; omega
    gi_wp2
    refine ⟨by simp, .inl ⟨_, _, rfl, run_takeDeferred (by rw [Below.heap_setCell _ _ _ _ (by simp; have := Z5.out; omega), Below.heap_setCell _ _ _ _ (by simp; have := Z5.out; omega)]; exact hK), ?_⟩⟩
    have e := HM.out; have e5 := Z5.out
    obtain ⟨U, hU⟩ : ∃ U, U = (((V.setCell { block := m + 1, off := 0 } (Value.int IntKind.i64 0)).setCell { block := m + 1 + 1, off := 0 } (Value.bool false)).putObj W5.heap.size (Obj.deferred none)) := ⟨_, rfl⟩
    have u1 : U.cell? ⟨m + 1, 0, none⟩ = some (.int .i64 0) := by
      rw [hU, cell?_putObj_nb _ (by omega), cell?_setCell_nb _ (by simp), World.cell?_setCell_same' _ _ _ (by rw [a2]; rfl)]
    have u2 : U.cell? ⟨m + 1 + 1, 0, none⟩ = some (.bool false) := by
      rw [hU, cell?_putObj_nb _ (by omega), World.cell?_setCell_same' _ _ _ (by rw [cell?_setCell_nb _ (by simp), a4]; rfl)]
    have u3 : Below w.heap.size w U := by
      rw [hU]
      have h1 := ((a7.setCell (p := ⟨m + 1, 0, none⟩) (by simp; omega) (Value.int IntKind.i64 0)).setCell (p := ⟨m + 1 + 1, 0, none⟩) (by simp; omega) (Value.bool false))
      exact h1.trans (((Diff.refl (fun k => k = W5.heap.size) _).putObj rfl _).below h1.size (fun k hk => by omega))
    rw [← hU]
    clear hU
    exact ⟨.tuple #[.int .i64 0, .bool false], by simp [results, Tryd.results64, go_sem, u1, u2], by rw [HN.out]; rfl, u3⟩
  case stop =>
    rintro cd pre x V hpre ⟨rfl, j, h1, h2, h3, h4⟩ hK
    have e := HM.out; have e5 := Z5.out
    have HS : Hid (J = some j) := by show _ = _; rw [HJ.out, h1]
    clear h1
    gi_wp2
    refine ⟨by simp, .inl ⟨_, _, rfl, run_takeDeferred hK, ?_⟩⟩
    obtain ⟨U, hU⟩ : ∃ U, U = (V.putObj W5.heap.size (Obj.deferred none)) := ⟨_, rfl⟩
    have u1 : U.cell? ⟨m + 1, 0, none⟩ = some (.int .i64 j) := by rw [hU, cell?_putObj_nb _ (by omega)]; exact h2
    have u2 : U.cell? ⟨m + 1 + 1, 0, none⟩ = some (.bool true) := by rw [hU, cell?_putObj_nb _ (by omega)]; exact h3
    have u3 : Below w.heap.size w U := by
      rw [hU]
      exact h4.trans (((Diff.refl (fun k => k = W5.heap.size) _).putObj rfl _).below h4.size (fun k hk => by omega))
    rw [← hU]
    clear hU
    exact ⟨.tuple #[.int .i64 j, .bool true], by simp [results, Tryd.results64, go_sem, u1, u2], by rw [HS.out]; rfl, u3⟩
end Go.Proofs.YtfhnigpjmljhbaaDoor.Or
