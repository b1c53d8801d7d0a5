/- slices.Grow, slices.Concat; inRange and Patch, where all is in its limits. -/
import Derived.Test.YtlhbfgkcalalkaaDoorCa
import Derived.Test.YtlhbfgkcalalkaaDoorIa
import Derived.Test.YtlhbfgkcalalkaaDoorNa
import Derived.Lib.AppendZerosOnto
import Derived.Lib.SliceRun
import Derived.Test.YtlhbfgkcalalkaaDoorGb
import Derived.Test.YtlhbfgkcalalkaaDoorHa
import Derived.Deep.RegionHeld3
set_option linter.unusedVariables false
set_option linter.unusedSimpArgs false
namespace Go.Proofs.YtlhbfgkcalalkaaDoor
open Go.RowKit Go.Shelf Go.Lib

set_option maxRecDepth 100000 in
set_option maxHeartbeats 2000000 in
theorem grow_any (n : Nat) (w : World) (hn : n ≤ 2000) :
    Calls Tryd.prog 39 #[.slice none 0 0, .int .i64 n] w fun e w' => ∃ v, e = .returned v ∧ w'.ownsRow w.heap.size 36 3 v 0 [] ∧ Below w.heap.size w w' := by
  obtain ⟨i0, hi, hz0, hz1, hz2⟩ := info_parts infoL
  have b1 : decide ((n : Int) < 0) = false := decide_eq_false (by omega)
  have b2 : ¬ ((n : Int) < 0) := by omega
  by_cases h0 : n = 0
  · subst h0
    go_enter Tryd.func39, Tryd.ntmps39
    go_wp2
    go_ret
    exact ⟨_, rfl, World.ownsRow_nil _ _ _ _, Below.refl _ _⟩
  · have b3 : decide ((0 : Int) < (n : Int)) = true := decide_eq_true (by omega)
    have b4 : 0 < n := by omega
    have s1 : IntKind.i64.wrap ((n : Int) - 0) = (n : Int) := by rw [IntWalk.i64_in _ (by omega)]; omega
    have hrz : ∀ ty, (Builtin.append_ #[22, 3] ty #[.slice none 0 0, .int .i64 (n : Int)]).run Tryd.prog w =
        .ok (.slice (some ⟨w.heap.size, 0, none⟩) (0 + n) (grownCap w (0 + n) 0 36)) (w.drew.alloc (.cells (([] : List Value).toArray ++ Builtin.zeroCells (Value.agg #[.int .u8 0, .string ⟨#[]⟩, .int .i64 0]).cells n ++ Builtin.zeroCells (Value.agg #[.int .u8 0, .string ⟨#[]⟩, .int .i64 0]).cells (grownCap w (0 + n) 0 36 - (0 + n))) 36)) := fun ty =>
      Lib.run_append_grow_zeros w _ _ ty _ i0 _ .i64 .i64 Tryd.underlying22 Tryd.underlying3 hi hz0 none 0 0 [] (run_firstCells_none w.drew i0.size 0 0 0) n b4 (by rw [hz1]; decide) (by omega) (by omega) (by rw [hz2]; omega) (growslice_fits (by omega) (by rw [hz2]; omega))
    have hGn : 0 + n ≤ grownCap w (0 + n) 0 36 := grownCap_ge w _ _ _
    have hGm := grownCap_le_maxLen w (0 + n) 0 36 (by unfold maxLen; omega)
    obtain ⟨G, hG⟩ : ∃ G, G = grownCap w (0 + n) 0 36 := ⟨_, rfl⟩
    obtain ⟨CS, hCS⟩ : ∃ CS, CS = (([] : List Value).toArray ++ Builtin.zeroCells (Value.agg #[.int .u8 0, .string ⟨#[]⟩, .int .i64 0]).cells n ++ Builtin.zeroCells (Value.agg #[.int .u8 0, .string ⟨#[]⟩, .int .i64 0]).cells (G - (0 + n))) := ⟨_, rfl⟩
    rw [← hG] at hrz hGn hGm
    rw [← hCS] at hrz
    have hsize : CS.size = G * 3 := by
      rw [hCS]
      simp only [Array.size_append, size_zeroCells, Value.cells]
      simp
      omega
    have HR : Hid (∀ ty, (Builtin.append_ #[22, 3] ty #[.slice none 0 0, .int .i64 (n : Int)]).run Tryd.prog w = .ok (.slice (some ⟨w.heap.size, 0, none⟩) n G) (w.drew.alloc (.cells CS 36))) := fun ty => by
      have := hrz ty; rw [Nat.zero_add] at this; exact this
    have HSZ := Lib.hid hsize
    clear hG hCS hrz hsize hz0 hz1 hz2 hi h0
    have hGm' : G ≤ 9223372036854775807 := by unfold maxLen at hGm; omega
    go_enter Tryd.func39, Tryd.ntmps39
    go_wp2_with (at_builtin; refine Lib.wpList_append_run _ rfl _ _ _ _ rfl _ _ rfl rfl _ _ (HR.out _) ?_)
    go_ret
    refine ⟨_, rfl, ?_, ?_⟩
    · exact World.ownsRow_made w.drew CS G (Nat.le_refl _) hGm HSZ.out
    · exact (Below.drew (Below.refl _ _)).alloc (Nat.le_refl _) _

set_option maxRecDepth 100000 in
set_option maxHeartbeats 4000000 in
theorem concat_any (b : Nat) (v1 v2 : Value) (l1 l2 : List Lx) (w : World) (c1 : w.cell? ⟨b, 0, none⟩ = some v1) (c2 : w.cell? ⟨b, 1, none⟩ = some v2) (h1 : ReadsLx w v1 l1) (h2 : ReadsLx w v2 l2) (hl1 : l1.length ≤ 1000) (hl2 : l2.length ≤ 1000) :
    Calls Tryd.prog 15 #[.slice (some ⟨b, 0, none⟩) 2 2] w fun e w' => ∃ v, e = .returned v ∧ w'.ownsRow w.heap.size 36 3 v (l1.length + l2.length) (rowCells (l1 ++ l2)) ∧ Below w.heap.size w w' := by
  obtain ⟨p1, cap1, rfl, hm1, h01⟩ := h1
  obtain ⟨p2, cap2, rfl, hm2, h02⟩ := h2
  obtain ⟨n1, hn1⟩ : ∃ n, n = l1.length := ⟨_, rfl⟩
  obtain ⟨n2, hn2⟩ : ∃ n, n = l2.length := ⟨_, rfl⟩
  have H1 : Hid (ReadsLx w (.slice p1 n1 cap1) l1) := by rw [hn1]; exact ⟨p1, cap1, rfl, hm1, h01⟩
  have H2 : Hid (ReadsLx w (.slice p2 n2 cap2) l2) := by rw [hn2]; exact ⟨p2, cap2, rfl, hm2, h02⟩
  rw [← hn1] at c1 hl1 ⊢
  rw [← hn2] at c2 hl2 ⊢
  have HN1 := Lib.hid hn1
  have HN2 := Lib.hid hn2
  obtain ⟨N, hN⟩ : ∃ N, N = n1 + n2 := ⟨_, rfl⟩
  have HN := Lib.hid hN
  have s1 : IntKind.i64.wrap ((0 : Int) + (n1 : Int)) = (n1 : Int) := by rw [IntWalk.i64_in _ (by omega)]; omega
  have s2 : IntKind.i64.wrap ((n1 : Int) + (n2 : Int)) = (N : Int) := by rw [IntWalk.i64_in _ (by omega)]; omega
  have d1 : decide ((n1 : Int) < 0) = false := decide_eq_false (by omega)
  have d2 : decide ((N : Int) < 0) = false := decide_eq_false (by omega)
  have d3 : ¬ ((n1 : Int) < 0) := by omega
  have d4 : ¬ ((N : Int) < 0) := by omega
  have CG := Lib.hid fun W => grow_any N W (by omega)
  have K1 := Lib.hid c1
  have K2 := Lib.hid c2
  have hbw : b < w.heap.size := cell_lt c1
  clear h01 h02 hm1 hm2 hn1 hn2 hN
  go_enter Tryd.func15, Tryd.ntmps15
  go_wp2
  go_loop [3, 11] (fun sz i => (i = .int .i64 0 ∧ sz = .int .i64 0) ∨ (i = .int .i64 1 ∧ sz = .int .i64 n1) ∨ (i = .int .i64 2 ∧ sz = .int .i64 N)) (fun sz i => 2 - (RowKit.intOf i).toNat)
  case atStart => exact .inl ⟨rfl, rfl⟩
  case round =>
    rcases hrel with ⟨rfl, rfl⟩ | ⟨rfl, rfl⟩ | ⟨rfl, rfl⟩
    · go_wp2
      go_round
      case rel => exact .inr (.inl ⟨rfl, rfl⟩)
      case measure => simp [RowKit.intOf]
    · go_wp2
      go_round
      case rel => exact .inr (.inr ⟨rfl, rfl⟩)
      case measure => simp [RowKit.intOf]
    · clear c1 c2
      go_wp2_with fail
      refine (CG.out _).mono ?_
      rintro e w1 ⟨v, rfl, hown, hb⟩
      have HO := Lib.hid hown
      have HB := Lib.hid hb
      clear hown hb
      go_wp2
      go_loopw [6, 27] (fun v i wr => ((i = .int .i64 0 ∧ Hid (wr.ownsRow w.heap.size 36 3 v 0 [])) ∨ (i = .int .i64 1 ∧ Hid (wr.ownsRow w.heap.size 36 3 v n1 (rowCells l1))) ∨ (i = .int .i64 2 ∧ Hid (wr.ownsRow w.heap.size 36 3 v (n1 + n2) (rowCells l1 ++ rowCells l2)))) ∧ Hid (Below w.heap.size w wr)) (fun v i _ => 2 - (RowKit.intOf i).toNat)
      case atStart => exact ⟨.inl ⟨rfl, HO⟩, HB⟩
      case round =>
        obtain ⟨hrel, hbr⟩ := hrel
        have c1 := (hbr.out.cell (cell_lt K1.out)).trans K1.out
        have c2 := (hbr.out.cell (cell_lt K2.out)).trans K2.out
        have hbl : b < wr.heap.size := cell_lt c1
        rcases hrel with ⟨rfl, ho⟩ | ⟨rfl, ho⟩ | ⟨rfl, ho⟩
        · go_wp2_with (at_builtin; refine wpList_append_reads rfl _ _ rfl w.heap.size _ _ 0 [] rfl ho.out rfl l1 (H1.out.below hbr.out) hbr.out.size (by have := HN1.out; omega) ?_)
          intro v' w' hown' hb'
          have HO' := Lib.hid hown'
          have HB' := Lib.hid (hbr.out.trans hb')
          clear hown' hb'
          go_wp2
          go_roundw
          case rel => exact ⟨.inr (.inl ⟨rfl, by show World.ownsRow _ _ _ _ _ _ _; have := HO'.out; rw [← HN1.out] at this; simpa using this⟩), HB'⟩
          case measure => simp [RowKit.intOf]
        · go_wp2_with (at_builtin; refine wpList_append_reads rfl _ _ rfl w.heap.size _ _ n1 (rowCells l1) rfl ho.out rfl l2 (H2.out.below hbr.out) hbr.out.size (by have := HN2.out; omega) ?_)
          intro v' w' hown' hb'
          have HO' := Lib.hid hown'
          have HB' := Lib.hid (hbr.out.trans hb')
          clear hown' hb'
          go_wp2
          go_roundw
          case rel => exact ⟨.inr (.inr ⟨rfl, by have := HO'.out; rw [← HN2.out] at this; exact this⟩), HB'⟩
          case measure => simp [RowKit.intOf]
        · go_wp2
          go_ret
          exact ⟨_, rfl, by rw [rowCells_app]; exact ho.out, hbr.out⟩
end Go.Proofs.YtlhbfgkcalalkaaDoor

namespace Go.Proofs.YtlhbfgkcalalkaaDoor
open Go.RowKit Go.Shelf

set_option maxRecDepth 100000 in
set_option maxHeartbeats 1000000 in
theorem placed_ok (x : Lx) (w : World) (h1 : 0 ≤ x.2.2) (h2 : x.2.2 ≤ 2500) :
    Calls Tryd.prog 38 #[lxV x] w fun e w' => e = .returned (.bool true) ∧ Below w.heap.size w w' := by
  have b1 : decide (0 ≤ x.2.2) = true := decide_eq_true h1
  have b2 : decide (x.2.2 ≤ 2500) = true := decide_eq_true h2
  have b3 : decide (x.2.2 ≥ 0) = true := decide_eq_true h1
  unfold lxV
  go_enter Tryd.func38, Tryd.ntmps38
  go_wp2
  all_goals go_ret
  all_goals exact ⟨ret_bool (by simp [b1, b2]), (Below.refl _ _).alloc (Nat.le_refl _) _⟩

set_option maxRecDepth 100000 in
set_option maxHeartbeats 2000000 in
theorem inRange_ok (L N : List Lx) (v u : Value) (hd tl F T : Nat) (put : List UInt8) (w : World) (hv : ReadsLx w v L) (hu : ReadsLx w u N) (hFT : F ≤ T) (hT : T ≤ 2500) (hl : L.length ≤ 900) (hht : hd + tl ≤ L.length)
    (hp1 : ∀ y ∈ L, 0 ≤ y.2.2 ∧ y.2.2 ≤ 2500) (hp2 : ∀ y ∈ N, 0 ≤ y.2.2 ∧ y.2.2 ≤ 2500) :
    Calls Tryd.prog 14 #[v, .agg #[.int .i64 F, .int .i64 T, .string (mkS put)], .agg #[.int .i64 hd, .int .i64 tl, u]] w fun e w' => e = .returned (.bool true) ∧ Below w.heap.size w w' := by
  have CE1 : Hid (∀ W, Below w.heap.size w W → Calls Tryd.prog 23 #[v, .func (.func 38) #[] #[]] W fun e w' => e = .returned (.bool true) ∧ Below W.heap.size W w') := fun W hW => by
    have := every_calls v L 38 #[] (fun _ => true) W (hv.below hW) (fun args w => rfl) (fun x W' hx hb => by
      have := placed_ok x W' (hp1 x hx).1 (hp1 x hx).2
      simpa using this)
    rw [show L.all (fun _ => true) = true by simp] at this; exact this
  have CE2 : Hid (∀ W, Below w.heap.size w W → Calls Tryd.prog 23 #[u, .func (.func 38) #[] #[]] W fun e w' => e = .returned (.bool true) ∧ Below W.heap.size W w') := fun W hW => by
    have := every_calls u N 38 #[] (fun _ => true) W (hu.below hW) (fun args w => rfl) (fun x W' hx hb => by
      have := placed_ok x W' (hp2 x hx).1 (hp2 x hx).2
      simpa using this)
    rw [show N.all (fun _ => true) = true by simp] at this; exact this
  obtain ⟨p, cap, rfl, _, _⟩ := hv
  obtain ⟨n, hn⟩ : ∃ n, n = L.length := ⟨_, rfl⟩
  rw [← hn] at CE1 hl hht ⊢
  have b1 : decide ((F : Int) < 0) = false := decide_eq_false (by omega)
  have b2 : decide ((T : Int) < (F : Int)) = false := decide_eq_false (by omega)
  have b2' : ¬ T < F := by omega
  have b3 : decide (2500 < (T : Int)) = false := decide_eq_false (by omega)
  have b4 : decide ((hd : Int) < 0) = false := decide_eq_false (by omega)
  have b5 : decide ((tl : Int) < 0) = false := decide_eq_false (by omega)
  have s1 : IntKind.i64.wrap ((n : Int) - (hd : Int)) = (n : Int) - (hd : Int) := IntWalk.i64_in _ (by omega)
  have b6 : decide ((n : Int) - (hd : Int) < (tl : Int)) = false := decide_eq_false (by omega)
  have d1 : ¬ ((F : Int) < 0) := by omega
  have d2 : ¬ ((T : Int) < (F : Int)) := by omega
  have d3 : ¬ (2500 < (T : Int)) := by omega
  have d4 : ¬ ((hd : Int) < 0) := by omega
  have d5 : ¬ ((tl : Int) < 0) := by omega
  have d6 : ¬ ((n : Int) - (hd : Int) < (tl : Int)) := by omega
  have HB0 : Hid (Below w.heap.size w ((w.alloc (.cells #[.int .i64 F, .int .i64 T, .string (mkS put)] 24)).alloc (.cells #[.int .i64 hd, .int .i64 tl, u] 26))) := ((Below.refl _ _).alloc (Nat.le_refl _) _).alloc (by simp) _
  obtain ⟨pu, cu, rfl, _, _⟩ := hu
  clear hn hp1 hp2
  go_enter Tryd.func14, Tryd.ntmps14
  go_wp2_with fail
  refine (CE1.out _ HB0.out).mono ?_
  rintro e w1 ⟨rfl, hb⟩
  have k2 : w1.cell? ⟨w.heap.size + 1, 2, none⟩ = some (.slice pu N.length cu) := (hb.cell (by simp)).trans (by simp [go_sem])
  have HB1 := Lib.hid (HB0.out.trans (hb.mono (by simp; omega)))
  clear hb
  go_wp2_with fail
  refine (CE2.out _ HB1.out).mono ?_
  rintro e w2 ⟨rfl, hb2⟩
  have HB2 := Lib.hid (HB1.out.trans (hb2.mono HB1.out.size))
  clear hb2 k2
  go_wp2
  go_ret
  exact ⟨ret_bool rfl, HB2.out⟩
end Go.Proofs.YtlhbfgkcalalkaaDoor

namespace Go.Proofs.YtlhbfgkcalalkaaDoor
open Go.RowKit Go.Shelf

theorem reads_take {w : World} {g cap : Nat} {ls : List Lx} (k : Nat) (hk : k ≤ ls.length) (h : ReadsLx w (.slice (some ⟨g, 0, none⟩) ls.length cap) ls) : ReadsLx w (.slice (some ⟨g, 0, none⟩) k cap) (ls.take k) := by
  obtain ⟨p, c, e, hl, h0⟩ := h
  simp only [Value.slice.injEq] at e
  obtain ⟨rfl, _, rfl⟩ := e
  have hkl : (ls.take k).length = k := by simp; omega
  refine ⟨some ⟨g, 0, none⟩, cap, by rw [hkl], by omega, ?_⟩
  rcases h0 with h0 | ⟨b, off, hp, hc⟩
  · exact .inl (by omega)
  · refine .inr ⟨b, off, hp, fun i hi => ?_⟩
    have hi' : i < ls.length := by omega
    have := hc i hi'
    simpa using this

set_option maxRecDepth 100000 in
set_option maxHeartbeats 8000000 in
theorem patch_some (L N : List Lx) (g cap : Nat) (u : Value) (hd tl F T : Nat) (put : List UInt8) (G : Int) (w : World) (base : Nat) (hv : w.ownsRow base 36 3 (.slice (some ⟨g, 0, none⟩) L.length cap) L.length (rowCells L)) (hu : ReadsLx w u N)
    (hFT : F ≤ T) (hT : T ≤ 2500) (hl : L.length ≤ 900) (hln : N.length ≤ 900) (hht : hd + tl ≤ L.length) (hsum : hd + N.length + tl ≤ 900) (hput : put.length ≤ 2500) (hG : G = (put.length : Int) - ((T : Int) - F)) (hcap : L.length ≤ cap)
    (hp1 : ∀ y ∈ L, 0 ≤ y.2.2 ∧ y.2.2 ≤ 2500) (hp2 : ∀ y ∈ N, 0 ≤ y.2.2 ∧ y.2.2 ≤ 2500) :
    Calls Tryd.prog 7 #[.slice (some ⟨g, 0, none⟩) L.length cap, .agg #[.int .i64 F, .int .i64 T, .string (mkS put)], .agg #[.int .i64 hd, .int .i64 tl, u]] w fun e w' =>
      ∃ v', e = .returned (.tuple #[v', .int .i64 0]) ∧ ReadsLx w' v' (patchL L N hd tl G) ∧ Below w.heap.size w w' := by
  have hread := reads_own hv (by omega)
  have CI : Hid (∀ W, Below w.heap.size w W → Calls Tryd.prog 14 #[.slice (some ⟨g, 0, none⟩) L.length cap, .agg #[.int .i64 F, .int .i64 T, .string (mkS put)], .agg #[.int .i64 hd, .int .i64 tl, u]] W fun e w' => e = .returned (.bool true) ∧ Below W.heap.size W w') := fun W hW =>
    inRange_ok L N _ u hd tl F T put W (hread.below hW) (hu.below hW) hFT hT hl hht hp1 hp2
  have HREAD := Lib.hid hread
  have HU := Lib.hid hu
  have hr1 := reads_take hd (by omega) hread
  have HR1 := Lib.hid hr1
  have hgw : g < w.heap.size := by
    have := hv.lt g rfl
    exact this.2
  obtain ⟨pu, cu, rfl, _, _⟩ := hu
  obtain ⟨n, hn⟩ : ∃ n, n = L.length := ⟨_, rfl⟩
  obtain ⟨m, hm⟩ : ∃ m, m = N.length := ⟨_, rfl⟩
  have HN := Lib.hid hn
  have HM := Lib.hid hm
  have CC : Hid (∀ W b, Below w.heap.size w W → W.cell? ⟨b, 0, none⟩ = some (.slice (some ⟨g, 0, none⟩) hd cap) → W.cell? ⟨b, 1, none⟩ = some (.slice pu m cu) → Calls Tryd.prog 15 #[.slice (some ⟨b, 0, none⟩) 2 2] W fun e w' =>
      ∃ v, e = .returned v ∧ w'.ownsRow W.heap.size 36 3 v (hd + m) (rowCells (L.take hd ++ N)) ∧ Below W.heap.size W w') := fun W b hW c1 c2 => by
    have hlt : (L.take hd).length = hd := by simp; omega
    have := concat_any b _ _ (L.take hd) N W c1 c2 (HR1.out.below hW) (by rw [hm]; exact HU.out.below hW) (by omega) (by omega)
    rw [hlt, ← hm] at this; exact this
  rw [← hn] at hl hht hcap CI
  rw [← hm] at hln hsum CI
  have hpz : (mkS put).size = put.length := mkS_size put
  obtain ⟨mx, hmx⟩ : ∃ mx : Int, mx = max (n : Int) (m : Int) := ⟨_, rfl⟩
  have HMX : Hid (max (n : Int) (m : Int) = mx) := hmx.symm
  have b1 : decide (900 < mx) = false := decide_eq_false (by omega)
  have b1' : ¬ 900 < mx := by omega
  have b2 : decide (2500 < ((mkS put).size : Int)) = false := decide_eq_false (by omega)
  have b2' : ¬ 2500 < (mkS put).size := by omega
  obtain ⟨K, hK⟩ : ∃ K, K = n - tl := ⟨_, rfl⟩
  have s1 : IntKind.i64.wrap ((hd : Int) + (m : Int)) = (hd : Int) + (m : Int) := IntWalk.i64_in _ (by omega)
  have s2 : IntKind.i64.wrap ((hd : Int) + (m : Int) + (tl : Int)) = (hd : Int) + (m : Int) + (tl : Int) := IntWalk.i64_in _ (by omega)
  have b3 : decide (900 < (hd : Int) + (m : Int) + (tl : Int)) = false := decide_eq_false (by omega)
  have b3' : ¬ 900 < (hd : Int) + (m : Int) + (tl : Int) := by omega
  have s3 : IntKind.i64.wrap ((n : Int) - (tl : Int)) = (K : Int) := by rw [IntWalk.i64_in _ (by omega)]; omega
  have s4 : IntKind.i64.wrap ((T : Int) - (F : Int)) = (T : Int) - (F : Int) := IntWalk.i64_in _ (by omega)
  have s5 : IntKind.i64.wrap (((mkS put).size : Int) - ((T : Int) - (F : Int))) = G := by rw [hG, hpz]; exact IntWalk.i64_in _ (by omega)
  have hKn : K ≤ n := by omega
  have htl : n - K = tl := by omega
  have hhc : hd ≤ cap := by omega
  have hKc : K ≤ cap := by omega
  have hGb : -2500 ≤ G ∧ G ≤ 2500 := by omega
  have HG := Lib.hid hGb
  have HK := Lib.hid hK
  have HB0 : Hid (Below w.heap.size w ((w.alloc (.cells #[.int .i64 F, .int .i64 T, .string (mkS put)] 24)).alloc (.cells #[.int .i64 hd, .int .i64 tl, .slice pu m cu] 26))) := ((Below.refl _ _).alloc (Nat.le_refl _) _).alloc (by simp) _
  rw [← HN.out, ← HM.out]
  have HP1 := Lib.hid hp1
  clear hn hm hpz hmx hK hG hv hread hr1 hGb htl hp1 hp2
  go_enter Tryd.func7, Tryd.ntmps7
  have hmx := HMX.out
  go_wp2_with fail
  refine (CI.out _ HB0.out).mono ?_
  rintro e w1 ⟨rfl, hb⟩
  have k0 : w1.cell? ⟨w.heap.size, 0, none⟩ = some (.int .i64 F) := (hb.cell (by simp; omega)).trans (by simp [go_sem])
  have k1 : w1.cell? ⟨w.heap.size, 1, none⟩ = some (.int .i64 T) := (hb.cell (by simp; omega)).trans (by simp [go_sem])
  have k2 : w1.cell? ⟨w.heap.size, 2, none⟩ = some (.string (mkS put)) := (hb.cell (by simp; omega)).trans (by simp [go_sem])
  have m0 : w1.cell? ⟨w.heap.size + 1, 0, none⟩ = some (.int .i64 hd) := (hb.cell (by simp)).trans (by simp [go_sem])
  have m1 : w1.cell? ⟨w.heap.size + 1, 1, none⟩ = some (.int .i64 tl) := (hb.cell (by simp)).trans (by simp [go_sem])
  have m2 : w1.cell? ⟨w.heap.size + 1, 2, none⟩ = some (.slice pu m cu) := (hb.cell (by simp)).trans (by simp [go_sem])
  have hz : w.heap.size + 1 < w1.heap.size := cell_lt m0
  have hz0 : w.heap.size < w1.heap.size := by omega
  have HB1 := Lib.hid (HB0.out.trans (hb.mono (by simp; omega)))
  have KK := Lib.hid (And.intro k0 (And.intro k1 (And.intro k2 (And.intro m1 hz))))
  have KS : Hid (∀ W, Below w1.heap.size w1 W → (W.cell? ⟨w.heap.size + 1, 0, none⟩ = some (.int .i64 hd) ∧ W.cell? ⟨w.heap.size + 1, 2, none⟩ = some (.slice pu m cu) ∧ w.heap.size + 1 < W.heap.size ∧ Below w1.heap.size w1 W)) := fun W hW => ⟨(hW.cell hz).trans m0, (hW.cell hz).trans m2, Nat.lt_of_lt_of_le hz hW.size, hW⟩
  have CC' : Hid (∀ W b, Below w1.heap.size w1 W → W.cell? ⟨b, 0, none⟩ = some (.slice (some ⟨g, 0, none⟩) hd cap) → W.cell? ⟨b, 1, none⟩ = some (.slice pu m cu) → Calls Tryd.prog 15 #[.slice (some ⟨b, 0, none⟩) 2 2] W fun e w' =>
      ∃ v, e = .returned v ∧ Hid (w'.ownsRow w1.heap.size 36 3 v (hd + m) (rowCells (L.take hd ++ N))) ∧ Below w1.heap.size w1 w') := fun W b hW c1 c2 =>
    (CC.out W b (HB1.out.trans (hW.mono HB1.out.size)) c1 c2).mono fun e w' ⟨v, he, ho, hb'⟩ => ⟨v, he, ownsRow_base ho hW.size, hW.trans (hb'.mono hW.size)⟩
  clear hb CI hmx CC
  go_wp2
  go_region_held3 (fun W => W.cell? ⟨w.heap.size + 1, 0, none⟩ = some (.int .i64 hd) ∧ W.cell? ⟨w.heap.size + 1, 2, none⟩ = some (.slice pu m cu) ∧ w.heap.size + 1 < W.heap.size ∧ Below w1.heap.size w1 W)
    (first | exact KS.out _ (by first | assumption | exact (Below.refl _ _).drew | exact Below.refl _ _ | (refine Below.drew ?_; assumption) | exact ((Below.refl w1.heap.size w1).drew).alloc (Nat.le_refl _) _ | exact (Below.refl w1.heap.size w1).alloc (Nat.le_refl _) _))
    (first | (go_at_call 15; refine (CC'.out _ _ (by first | assumption | exact (Below.refl _ _).drew | exact Below.refl _ _ | (refine Below.drew ?_; assumption) | exact ((Below.refl w1.heap.size w1).drew).alloc (Nat.le_refl _) _ | exact (Below.refl w1.heap.size w1).alloc (Nat.le_refl _) _) (by simp [go_sem]) (by simp [go_sem])).mono ?_; rintro e wa ⟨v8, rfl, HO8, hba⟩))
  obtain ⟨k0', k1', k2', m1', hz'⟩ := KK.out
  have HBA := Lib.hid hba
  have htl : n - K = tl := by have := HK.out; omega
  have KC : Hid (∀ W, Below w1.heap.size w1 W → W.cell? ⟨w.heap.size, 0, none⟩ = some (.int .i64 F) ∧ W.cell? ⟨w.heap.size, 1, none⟩ = some (.int .i64 T) ∧ W.cell? ⟨w.heap.size, 2, none⟩ = some (.string (mkS put)) ∧ w.heap.size < W.heap.size) := fun W hW =>
    ⟨(hW.cell (by omega)).trans k0', (hW.cell (by omega)).trans k1', (hW.cell (by omega)).trans k2', by have := hW.size; omega⟩
  have m1 : wa.cell? ⟨w.heap.size + 1, 1, none⟩ = some (.int .i64 tl) := (hba.cell hz').trans m1'
  have hzw : w.heap.size + 1 < wa.heap.size := cell_lt m1
  clear k0' k1' k2' m1' hba KS CC' m0 m2
  by_cases hce : cap = K
  · have htl0 : tl = 0 := by omega
    have hnK : n = K := by omega
    have HFIN : Hid (rowCells (L.take hd ++ N) = rowCells (patchL L N hd tl G)) := by
      show _ = _
      unfold patchL
      rw [htl0, Nat.sub_zero, List.drop_of_length_le (Nat.le_refl _)]; simp
    have HLEN : Hid (hd + m = (patchL L N hd tl G).length) := by
      show _ = _
      have := congrArg List.length HFIN.out
      rw [rowCells_length, rowCells_length] at this
      have h1 := HM.out; have h2 := HN.out
      simp only [List.length_append, List.length_take] at this
      omega
    subst hce
    clear hnK htl
    subst htl0
    go_wp2
    go_loopw [8, 55] (fun v i wr => i = .int .i64 0 ∧ v = v8 ∧ wr = wa) (fun v i _ => 0)
    case atStart => exact ⟨rfl, rfl, rfl⟩
    case round =>
      obtain ⟨rfl, rfl, rfl⟩ := hrel
      go_wp2
      go_ret2
      refine ⟨_, rfl, ?_, HB1.out.trans (HBA.out.mono HB1.out.size)⟩
      have := HO8.out
      rw [HLEN.out, HFIN.out] at this
      exact reads_own this (by rw [← HLEN.out]; omega)
  · have hkc : K < cap := by omega
    have HFIN : Hid (L.take hd ++ N ++ ((L.drop K).take tl).map (movT G) = patchL L N hd tl G) := by
      show _ = _
      unfold patchL
      rw [show (L.drop K).take tl = L.drop K from List.take_of_length_le (by simp; have := HN.out; omega), ← HN.out, ← HK.out]
    have HL2 : Hid (hd + m + tl = (patchL L N hd tl G).length) := by
      show _ = _
      have h1 := HM.out; have h2 := HN.out
      rw [← HFIN.out]
      simp only [List.length_append, List.length_take, List.length_map, List.length_drop]
      omega
    have CM : Hid (∀ (y : Lx) W, 0 ≤ y.2.2 ∧ y.2.2 ≤ 2500 → Calls Tryd.prog 16 #[.agg #[.int .u8 y.1, .string (mkS y.2.1), .int .i64 y.2.2], .int .i64 G] W fun e w' => e = .returned (.agg #[.int .u8 y.1, .string (mkS y.2.1), .int .i64 (y.2.2 + G)]) ∧ Below W.heap.size W w') := fun y W hy => by
      have := HG.out
      exact moved_any y.1 y.2.1 y.2.2 G W (by omega) (by omega)
    have HO8' : Hid (wa.ownsRow w1.heap.size 36 3 v8 (hd + m + 0) (rowCells (L.take hd ++ N ++ ((L.drop K).take 0).map (movT G)))) := by
      show World.ownsRow _ _ _ _ _ _ _
      have := HO8.out
      simpa using this
    clear HO8
    go_wp2
    clear m1
    go_loopw [8, 55] (fun v i wr => ∃ k : Nat, k ≤ tl ∧ i = .int .i64 k ∧ Hid (wr.ownsRow w1.heap.size 36 3 v (hd + m + k) (rowCells (L.take hd ++ N ++ ((L.drop K).take k).map (movT G)))) ∧ Hid (Below w1.heap.size w1 wr)) (fun v i _ => tl - (intOf i).toNat)
    case atStart => exact ⟨0, Nat.zero_le _, rfl, HO8', HBA⟩
    case round =>
      obtain ⟨k, hk, rfl, ho, hbr⟩ := hrel
      by_cases hlt : k < tl
      · obtain ⟨k0, k1, k2, hzr⟩ := KC.out _ hbr.out
        have hKL : K + k < L.length := by have := HN.out; omega
        obtain ⟨y, hy⟩ : ∃ y, y = L[K + k] := ⟨_, rfl⟩
        have HY := Lib.hid hy
        have hyp := HP1.out y (by rw [hy]; exact List.getElem_mem _)
        have HYP := Lib.hid hyp
        have hbw : Below w.heap.size w wr := HB1.out.trans (hbr.out.mono HB1.out.size)
        have hc3 : wr.cell? ⟨g, K * 3 + k * 3, none⟩ = some (.int .u8 y.1) ∧ wr.cell? ⟨g, K * 3 + k * 3 + 1, none⟩ = some (.string (mkS y.2.1)) ∧ wr.cell? ⟨g, K * 3 + k * 3 + 2, none⟩ = some (.int .i64 y.2.2) := by
          obtain ⟨pp, cc, e0, _, h0⟩ := HREAD.out.below hbw
          simp only [Value.slice.injEq] at e0
          rcases h0 with h0 | ⟨b', off', hp, hcs⟩
          · omega
          · rw [← e0.1] at hp
            simp only [Option.some.injEq, Addr.mk.injEq] at hp
            obtain ⟨rfl, rfl, _⟩ := hp
            have := hcs (K + k) hKL
            rw [hy]
            rw [show 0 + (K + k) * 3 = K * 3 + k * 3 by omega] at this
            exact this
        obtain ⟨y0, y1, y2⟩ := hc3
        have hgr : g < wr.heap.size := cell_lt y0
        have CMy := Lib.hid fun W => CM.out y W HYP.out
        have HBW := Lib.hid hbw
        clear hy hyp hbw
        go_wp2_with fail
        refine (CMy.out _).mono ?_
        rintro e w4 ⟨rfl, hb4⟩
        have hb4' : Below wr.heap.size wr w4 := ((Below.refl _ _).alloc (Nat.le_refl _) _).trans (hb4.mono (by simp))
        have HB4 := Lib.hid (hbr.out.trans (hb4'.mono hbr.out.size))
        have HO4 := Lib.hid (ownsRow_below ho.out hb4')
        clear hb4 hb4' y0 y1 y2 k0 k1 k2
        go_wp2_with (at_builtin; refine wpList_append_reads rfl _ _ rfl w1.heap.size _ _ (hd + m + k) _ rfl (HO4.out.alloc _) rfl [movT G y] (reads_row (ls := [movT G y]) (heap_alloc_new w4 _) rfl (by simp)) (by have := HB4.out.size; simp; omega) (by simp; omega) ?_)
        intro v' w5 hown5 hb5
        have HO5 : Hid (w5.ownsRow w1.heap.size 36 3 v' (hd + m + (k + 1)) (rowCells (L.take hd ++ N ++ ((L.drop K).take (k + 1)).map (movT G)))) := by
          show World.ownsRow _ _ _ _ _ _ _
          have e : (L.drop K).take (k + 1) = (L.drop K).take k ++ [y] := by
            rw [List.take_add_one, List.getElem?_drop, List.getElem?_eq_getElem hKL, HY.out]; rfl
          rw [e, List.map_append, ← List.append_assoc, rowCells_app, show hd + m + (k + 1) = hd + m + k + 1 by omega]
          simpa using hown5
        have HB5 := Lib.hid ((HB4.out.alloc HB4.out.size _).trans hb5)
        clear hown5 hb5
        go_wp2
        go_roundw
        case rel => exact ⟨k + 1, by omega, by go_num, HO5, HB5⟩
        case measure => simp [intOf]; omega
      · have hkt : k = tl := by omega
        have HO9 := Lib.hid (hkt ▸ ho.out)
        have HFN : Hid (Below w.heap.size w wr) := HB1.out.trans (hbr.out.mono HB1.out.size)
        clear ho hkt
        go_wp2
        go_ret2
        refine ⟨_, rfl, ?_, HFN.out⟩
        have := HO9.out
        rw [HFIN.out, HL2.out] at this
        exact reads_own this (by rw [← HL2.out]; omega)
end Go.Proofs.YtlhbfgkcalalkaaDoor

namespace Go.Proofs.YtlhbfgkcalalkaaDoor
open Go.RowKit Go.Shelf

set_option maxRecDepth 100000 in
set_option maxHeartbeats 8000000 in
theorem patch_none (N : List Lx) (u : Value) (F T : Nat) (put : List UInt8) (G : Int) (w : World) (hu : ReadsLx w u N)
    (hFT : F ≤ T) (hT : T ≤ 2500) (hln : N.length ≤ 900) (hput : put.length ≤ 2500)
    (hp2 : ∀ y ∈ N, 0 ≤ y.2.2 ∧ y.2.2 ≤ 2500) :
    Calls Tryd.prog 7 #[.slice none 0 0, .agg #[.int .i64 F, .int .i64 T, .string (mkS put)], .agg #[.int .i64 0, .int .i64 0, u]] w fun e w' =>
      ∃ v', e = .returned (.tuple #[v', .int .i64 0]) ∧ ReadsLx w' v' (patchL [] N 0 0 G) ∧ Below w.heap.size w w' := by
  have hread : ReadsLx w (.slice none 0 0) [] := ⟨none, 0, rfl, by simp, .inl rfl⟩
  have CI : Hid (∀ W, Below w.heap.size w W → Calls Tryd.prog 14 #[.slice none 0 0, .agg #[.int .i64 F, .int .i64 T, .string (mkS put)], .agg #[.int .i64 0, .int .i64 0, u]] W fun e w' => e = .returned (.bool true) ∧ Below W.heap.size W w') := fun W hW =>
    inRange_ok [] N _ u 0 0 F T put W (hread.below hW) (hu.below hW) hFT hT (by simp) (by simp) (by simp) hp2
  have HREAD := Lib.hid hread
  have HU := Lib.hid hu
  obtain ⟨pu, cu, rfl, _, _⟩ := hu
  obtain ⟨m, hm⟩ : ∃ m, m = N.length := ⟨_, rfl⟩
  have HM := Lib.hid hm
  have CC : Hid (∀ W b, Below w.heap.size w W → W.cell? ⟨b, 0, none⟩ = some (.slice none 0 0) → W.cell? ⟨b, 1, none⟩ = some (.slice pu m cu) → Calls Tryd.prog 15 #[.slice (some ⟨b, 0, none⟩) 2 2] W fun e w' =>
      ∃ v, e = .returned v ∧ w'.ownsRow W.heap.size 36 3 v m (rowCells N) ∧ Below W.heap.size W w') := fun W b hW c1 c2 => by
    have := concat_any b _ _ [] N W c1 c2 (HREAD.out.below hW) (by rw [hm]; exact HU.out.below hW) (by simp) (by omega)
    rw [← hm] at this; simpa using this
  rw [← hm] at hln CI
  have hpz : (mkS put).size = put.length := mkS_size put
  obtain ⟨mx, hmx⟩ : ∃ mx : Int, mx = max (0 : Int) (m : Int) := ⟨_, rfl⟩
  have HMX : Hid (max (0 : Int) (m : Int) = mx) := hmx.symm
  have b1 : decide (900 < mx) = false := decide_eq_false (by omega)
  have b1' : ¬ 900 < mx := by omega
  have b2 : decide (2500 < ((mkS put).size : Int)) = false := decide_eq_false (by omega)
  have b2' : ¬ 2500 < (mkS put).size := by omega
  have s2 : IntKind.i64.wrap ((m : Int) + 0) = (m : Int) := by rw [IntWalk.i64_in _ (by omega)]; omega
  have s1 : IntKind.i64.wrap ((0 : Int) + (m : Int)) = (m : Int) := by rw [IntWalk.i64_in _ (by omega)]; omega
  have b3 : decide (900 < (m : Int)) = false := decide_eq_false (by omega)
  have b3' : ¬ 900 < (m : Int) := by omega
  have b3'' : ¬ 900 < m := by omega
  have HB0 : Hid (Below w.heap.size w ((w.alloc (.cells #[.int .i64 F, .int .i64 T, .string (mkS put)] 24)).alloc (.cells #[.int .i64 0, .int .i64 0, .slice pu m cu] 26))) := ((Below.refl _ _).alloc (Nat.le_refl _) _).alloc (by simp) _
  rw [← HM.out]
  clear hm hpz hmx hread hp2
  go_enter Tryd.func7, Tryd.ntmps7
  have hmx := HMX.out
  go_wp2_with fail
  refine (CI.out _ HB0.out).mono ?_
  rintro e w1 ⟨rfl, hb⟩
  have k0 : w1.cell? ⟨w.heap.size, 0, none⟩ = some (.int .i64 F) := (hb.cell (by simp; omega)).trans (by simp [go_sem])
  have k1 : w1.cell? ⟨w.heap.size, 1, none⟩ = some (.int .i64 T) := (hb.cell (by simp; omega)).trans (by simp [go_sem])
  have k2 : w1.cell? ⟨w.heap.size, 2, none⟩ = some (.string (mkS put)) := (hb.cell (by simp; omega)).trans (by simp [go_sem])
  have m0 : w1.cell? ⟨w.heap.size + 1, 0, none⟩ = some (.int .i64 0) := (hb.cell (by simp)).trans (by simp [go_sem])
  have m1 : w1.cell? ⟨w.heap.size + 1, 1, none⟩ = some (.int .i64 0) := (hb.cell (by simp)).trans (by simp [go_sem])
  have m2 : w1.cell? ⟨w.heap.size + 1, 2, none⟩ = some (.slice pu m cu) := (hb.cell (by simp)).trans (by simp [go_sem])
  have hz : w.heap.size + 1 < w1.heap.size := cell_lt m0
  have hz0 : w.heap.size < w1.heap.size := by omega
  have HB1 := Lib.hid (HB0.out.trans (hb.mono (by simp; omega)))
  have KK := Lib.hid (And.intro k0 (And.intro k1 (And.intro k2 (And.intro m1 hz))))
  have KS : Hid (∀ W, Below w1.heap.size w1 W → (W.cell? ⟨w.heap.size + 1, 0, none⟩ = some (.int .i64 0) ∧ W.cell? ⟨w.heap.size + 1, 2, none⟩ = some (.slice pu m cu) ∧ w.heap.size + 1 < W.heap.size ∧ Below w1.heap.size w1 W)) := fun W hW => ⟨(hW.cell hz).trans m0, (hW.cell hz).trans m2, Nat.lt_of_lt_of_le hz hW.size, hW⟩
  have CC' : Hid (∀ W b, Below w1.heap.size w1 W → W.cell? ⟨b, 0, none⟩ = some (.slice none 0 0) → W.cell? ⟨b, 1, none⟩ = some (.slice pu m cu) → Calls Tryd.prog 15 #[.slice (some ⟨b, 0, none⟩) 2 2] W fun e w' =>
      ∃ v, e = .returned v ∧ Hid (w'.ownsRow w1.heap.size 36 3 v m (rowCells N)) ∧ Below w1.heap.size w1 w') := fun W b hW c1 c2 =>
    (CC.out W b (HB1.out.trans (hW.mono HB1.out.size)) c1 c2).mono fun e w' ⟨v, he, ho, hb'⟩ => ⟨v, he, ownsRow_base ho hW.size, hW.trans (hb'.mono hW.size)⟩
  clear hb CI hmx CC
  go_wp2
  go_region_held3 (fun W => W.cell? ⟨w.heap.size + 1, 0, none⟩ = some (.int .i64 0) ∧ W.cell? ⟨w.heap.size + 1, 2, none⟩ = some (.slice pu m cu) ∧ w.heap.size + 1 < W.heap.size ∧ Below w1.heap.size w1 W)
    (first | exact KS.out _ (by first | assumption | exact (Below.refl _ _).drew | exact Below.refl _ _ | (refine Below.drew ?_; assumption) | exact ((Below.refl w1.heap.size w1).drew).alloc (Nat.le_refl _) _ | exact (Below.refl w1.heap.size w1).alloc (Nat.le_refl _) _))
    (first | (go_at_call 15; refine (CC'.out _ _ (by first | assumption | exact (Below.refl _ _).drew | exact Below.refl _ _ | (refine Below.drew ?_; assumption) | exact ((Below.refl w1.heap.size w1).drew).alloc (Nat.le_refl _) _ | exact (Below.refl w1.heap.size w1).alloc (Nat.le_refl _) _) (by simp [go_sem]) (by simp [go_sem])).mono ?_; rintro e wa ⟨v8, rfl, HO8, hba⟩))
  obtain ⟨k0', k1', k2', m1', hz'⟩ := KK.out
  have HBA := Lib.hid hba
  have m1 : wa.cell? ⟨w.heap.size + 1, 1, none⟩ = some (.int .i64 0) := (hba.cell hz').trans m1'
  have hzw : w.heap.size + 1 < wa.heap.size := cell_lt m1
  clear k0' k1' k2' m1' hba KS CC' m0 m2
  have HLEN : Hid (m = (patchL [] N 0 0 G).length) := by
    show _ = _
    have h1 := HM.out
    simp [patchL]; omega
  have HFIN : Hid (rowCells N = rowCells (patchL [] N 0 0 G)) := by
    show _ = _
    simp [patchL]
  go_wp2
  go_loopw [8, 55] (fun v i wr => i = .int .i64 0 ∧ v = v8 ∧ wr = wa) (fun v i _ => 0)
  case atStart => exact ⟨rfl, rfl, rfl⟩
  case round =>
    obtain ⟨rfl, rfl, rfl⟩ := hrel
    go_wp2
    go_ret2
    refine ⟨_, rfl, ?_, HB1.out.trans (HBA.out.mono HB1.out.size)⟩
    have := HO8.out
    rw [HLEN.out, HFIN.out] at this
    exact reads_own this (by rw [← HLEN.out]; omega)

theorem patch_any (L N : List Lx) (v u : Value) (hd tl F T : Nat) (put : List UInt8) (G : Int) (w : World) (base : Nat) (hv : w.ownsRow base 36 3 v L.length (rowCells L)) (hu : ReadsLx w u N)
    (hFT : F ≤ T) (hT : T ≤ 2500) (hl : L.length ≤ 900) (hln : N.length ≤ 900) (hht : hd + tl ≤ L.length) (hsum : hd + N.length + tl ≤ 900) (hput : put.length ≤ 2500) (hG : G = (put.length : Int) - ((T : Int) - F))
    (hp1 : ∀ y ∈ L, 0 ≤ y.2.2 ∧ y.2.2 ≤ 2500) (hp2 : ∀ y ∈ N, 0 ≤ y.2.2 ∧ y.2.2 ≤ 2500) :
    Calls Tryd.prog 7 #[v, .agg #[.int .i64 F, .int .i64 T, .string (mkS put)], .agg #[.int .i64 hd, .int .i64 tl, u]] w fun e w' =>
      ∃ v', e = .returned (.tuple #[v', .int .i64 0]) ∧ ReadsLx w' v' (patchL L N hd tl G) ∧ Below w.heap.size w w' := by
  rcases hv.2 with ⟨rfl, h0⟩ | ⟨g, cap, cur, rfl, _, _, hc, hm, _⟩
  · have hL : L = [] := List.length_eq_zero_iff.1 h0
    subst hL
    obtain rfl : hd = 0 := by simp at hht; omega
    obtain rfl : tl = 0 := by simp at hht; omega
    exact patch_none N u F T put G w hu hFT hT hln hput hp2
  · exact patch_some L N g cap u hd tl F T put G w base hv hu hFT hT hl hln hht hsum hput hG hc hp1 hp2
end Go.Proofs.YtlhbfgkcalalkaaDoor

