/- order's Slim. -/
import Derived.Test.YtfhnigpjmljhbaaDoorOrAi
import Derived.Test.YtfhnigpjmljhbaaDoorOrKj
import Derived.Test.YtfhnigpjmljhbaaDoorOrLa
import Derived.Deep.CutRange
import Derived.Deep.RegionLaw
import Derived.Deep.Cut
set_option linter.unusedVariables false
set_option linter.unusedSimpArgs false
namespace Go.Proofs.YtfhnigpjmljhbaaDoor.Or
open Go.RowKit Go.Shelf

/-- The table in which just what is right above an element stands above it. -/
def slimT (t : Tab) : Tab where
  name := t.name
  elems := t.elems
  above := (List.range t.n).map fun a => ints ((List.range t.n).filter (cov t.R t.n a))
  wrong := t.wrong
def zeroT : Tab := ⟨[], [], [], []⟩
def slimF (t : Tab) : Tab := if latE t [] = 0 then slimT t else zeroT
theorem zeroT_in (w : World) : TabIn w (.slice none 0 0) (.slice none 0 0) (.slice none 0 0) zeroT := ⟨Rd.nil _, ⟨[], Rd.nil _, rfl, fun i h => by simp [zeroT] at h⟩, Rd.nil _⟩

/-- A table that is made: its block, its lists of names and of wrong, and the row of what stands above the first elements. -/
structure SlI (W0 : World) (q : Nat) (x0 vE vW : Value) (LE LW : List Value) (PT : Nat → List Nat) (k : Nat) (V : World) : Prop where
  row : ∃ vA, V.heap[q]? = some (.cells #[x0, vE, vA, vW] 26 (0, 0)) ∧ AllI W0.heap.size PT vA k V
  e : V.ownsRow W0.heap.size 9 1 vE LE.length LE
  w : V.ownsRow W0.heap.size 4 1 vW LW.length LW
  bel : Below W0.heap.size W0 V
theorem AllI.set {B a q i : Nat} {PT : Nat → List Nat} {v x : Value} {V : World} {cs : Array Value} {fr : Nat × Nat} (h : AllI B PT v a V) (hq : V.heap[q]? = some (.cells cs 26 fr)) : AllI B PT v a (V.setCell ⟨q, i, none⟩ x) := by
  obtain ⟨xs, h1, h2⟩ := h.row
  exact ⟨xs, ownsRow_set h1 hq (by decide), fun j hj => ownsRow_set (h2 j hj) hq (by decide)⟩
theorem SlI.step {W0 wr wX wO : World} {q k : Nat} {x0 vE vW vA l vO : Value} {LE LW xs : List Value} {PT : Nat → List Nat} (h : SlI W0 q x0 vE vW LE LW PT k wr)
    (hq : wr.heap[q]? = some (.cells #[x0, vE, vA, vW] 26 (0, 0))) (hown : wr.ownsRow W0.heap.size 35 1 vA k xs) (hxs : ∀ i (h : i < xs.length), wr.ownsRow 0 3 1 xs[i] (PT i).length ((ints (PT i)).map (Value.int .i64)))
    (hq0 : W0.heap.size ≤ q) (hX : Below wr.heap.size wr wX) (hl : wX.ownsRow 0 3 1 l (PT k).length ((ints (PT k)).map (Value.int .i64)))
    (hO : wO.ownsRow W0.heap.size 35 1 vO (k + 1) (xs ++ [l])) (hg : wX.grownBy wO vA.ownBlock) : SlI W0 q x0 vE vW LE LW PT (k + 1) (wO.setCell ⟨q, 2, none⟩ vO) := by
  have hownX := ownsRow_below hown hX
  have hqX := heap_below hX hq
  have hqO : wO.heap[q]? = some (.cells #[x0, vE, vA, vW] 26 (0, 0)) := (hg.block q (heap_lt hqX) (Lib.ownBlock_ne hownX hqX (by decide)).symm).trans hqX
  refine ⟨⟨vO, by rw [setCell_heap hqO]; rfl, (AllI.snoc hownX (fun i hi => ownsRow_below (hxs i hi) hX) hl hO hg).set hqO⟩, ?_, ?_, ?_⟩
  · exact ownsRow_set (ownsRow_kept (ownsRow_below h.e hX) hownX hg (by decide)) hqO (by decide)
  · exact ownsRow_set (ownsRow_kept (ownsRow_below h.w hX) hownX hg (by decide)) hqO (by decide)
  · refine Below.setCell (Below.grown (below_step hX h.bel (Nat.le_refl _)) hg (Nat.le_trans h.bel.size hX.size) (fun g e => ?_)) hq0 _
    rcases hown.2 with ⟨rfl, _⟩ | ⟨g', cap, cur, rfl, hbg, _⟩
    · cases e
    · simp only [Value.ownBlock, Option.some.injEq] at e; omega
/-- What a made table is, its cells laid into another block. -/
theorem SlI.done {W0 V : World} {q z k : Nat} {x0 vE vW vA y0 y1 y2 y3 : Value} {T : Tab} {PT : Nat → List Nat} {cs : Array Value} {fr : Nat × Nat} (h : SlI W0 q x0 vE vW (T.elems.map strV) (T.wrong.map Value.bool) PT k V)
    (hA : AllI W0.heap.size PT vA k V) (hz : V.heap[z]? = some (.cells cs 26 fr)) (hk : k = T.above.length) (hP : ∀ i, i < k → T.above.getD i [] = ints (PT i)) (hPl : ∀ i, i < k → (PT i).length ≤ 20) (h1 : T.elems.length ≤ 20) (h2 : k ≤ 20) (h3 : T.wrong.length ≤ 20) :
    TabIn (set4 V z y0 y1 y2 y3) vE vA vW T := by
  refine ⟨rd_own (ownsRow_set4 h.e hz (by decide)) (by simp; omega), ?_, rd_own (ownsRow_set4 h.w hz (by decide)) (by simp; omega)⟩
  obtain ⟨xs, hr, hx⟩ := hA.row
  have hlk : xs.length = k := by have := hr.1; omega
  rw [← hlk] at hr
  refine ⟨xs, rd_own (ownsRow_set4 hr hz (by decide)) (by omega), by omega, fun i hi hi' => ?_⟩
  have hx2 := ownsRow_set4 (x0 := y0) (x1 := y1) (x2 := y2) (x3 := y3) (hx i hi') hz (by decide)
  have e : T.above[i] = ints (PT i) := by rw [← hP i (by omega)]; simp [List.getD_eq_getElem?_getD, hi]
  rw [e]
  have hl := hPl i (by omega)
  exact rd_own (by rw [List.length_map, ints_length]; exact hx2) (by rw [List.length_map, ints_length]; omega)
theorem below_four {n k : Nat} {w X : World} {x0 x1 x2 x3 : Value} (hk : n ≤ k) (h : Below n w X) : Below n w ((((X.setCell ⟨k, 0, none⟩ x0).setCell ⟨k, 1, none⟩ x1).setCell ⟨k, 2, none⟩ x2).setCell ⟨k, 3, none⟩ x3) := below_set4 h hk
theorem sl_begin {W1 X : World} {k : Nat} {x0 vE vW c0 c1 c2 c3 : Value} {LE LW : List Value} {PT : Nat → List Nat} (hz : X.heap[k]? = some (.cells #[c0, c1, c2, c3] 26 (0, 0))) (hk : W1.heap.size ≤ k)
    (hE : X.ownsRow W1.heap.size 9 1 vE LE.length LE) (hW : X.ownsRow W1.heap.size 4 1 vW LW.length LW) (hb : Below W1.heap.size W1 X) :
    SlI W1 k x0 vE vW LE LW PT 0 ((((X.setCell ⟨k, 0, none⟩ x0).setCell ⟨k, 1, none⟩ vE).setCell ⟨k, 2, none⟩ (.slice none 0 0)).setCell ⟨k, 3, none⟩ vW) :=
  ⟨⟨.slice none 0 0, set4_heap hz, ⟨[], ⟨rfl, .inl ⟨rfl, rfl⟩⟩, fun i h => by simp at h⟩⟩, ownsRow_set4 hE hz (by decide), ownsRow_set4 hW hz (by decide), below_four hk hb⟩
theorem sl_begin' {W1 X : World} {x0 vE vW : Value} {LE LW : List Value} {PT : Nat → List Nat}
    (hE : X.ownsRow W1.heap.size 9 1 vE LE.length LE) (hW : X.ownsRow W1.heap.size 4 1 vW LW.length LW) (hb : Below W1.heap.size W1 X) :
    SlI W1 X.heap.size x0 vE vW LE LW PT 0 (X.alloc (.cells #[x0, vE, .slice none 0 0, vW] 26)) :=
  ⟨⟨.slice none 0 0, heap_alloc_at rfl, ⟨[], ⟨rfl, .inl ⟨rfl, rfl⟩⟩, fun i h => by simp at h⟩⟩, ownsRow_below hE ((Below.refl _ _).alloc (Nat.le_refl _) _), ownsRow_below hW ((Below.refl _ _).alloc (Nat.le_refl _) _), hb.alloc hb.size _⟩
theorem slim_lens {t : Tab} (hf : frmF t = true) : (slimT t).above.length = t.n ∧ (∀ i, i < t.n → (slimT t).above.getD i [] = ints ((List.range t.n).filter (cov t.R t.n i))) ∧ ∀ i, ((List.range t.n).filter (cov t.R t.n i)).length ≤ t.n := by
  refine ⟨by simp [slimT], fun i hi => by simp [slimT, List.getD_eq_getElem?_getD, hi], fun i => ?_⟩
  have := List.length_filter_le (cov t.R t.n i) (List.range t.n)
  rwa [List.length_range] at this
theorem four_cells {V : World} {k : Nat} {a0 a1 a2 a3 : Value} {T : TypeId} (h : V.heap[k]? = some (.cells #[a0, a1, a2, a3] T (0, 0))) :
    (V.cell? ⟨k, 0, none⟩ = some a0 ∧ V.cell? ⟨k, 1, none⟩ = some a1 ∧ V.cell? ⟨k, 2, none⟩ = some a2 ∧ V.cell? ⟨k, 3, none⟩ = some a3) ∧ V.frozen? ⟨k, 0, none⟩ = false ∧ V.frozen? ⟨k, 1, none⟩ = false ∧ V.frozen? ⟨k, 2, none⟩ = false ∧ V.frozen? ⟨k, 3, none⟩ = false := by
  have y0 := Go.Joins.cell_of_block h 0
  have y1 := Go.Joins.cell_of_block h 1
  have y2 := Go.Joins.cell_of_block h 2
  have y3 := Go.Joins.cell_of_block h 3
  simp only [List.getElem?_toArray, List.getElem?_cons_zero, List.getElem?_cons_succ] at y0 y1 y2 y3
  exact ⟨⟨y0, y1, y2, y3⟩, Go.Joins.unfrozen_of_block h 0, Go.Joins.unfrozen_of_block h 1, Go.Joins.unfrozen_of_block h 2, Go.Joins.unfrozen_of_block h 3⟩
theorem heap_alloc_at2 (V : World) (o : Obj) : (V.alloc o).heap[V.heap.size]? = some o := heap_alloc_at rfl

set_option maxRecDepth 100000 in
set_option maxHeartbeats 8000000 in
theorem Slim_any (t : Tab) (ve va vw : Value) (w : World) (hT : TabIn w ve va vw t) (hS : Small t) (hL : LaidOk w) :
    Calls Tryd.prog 10 #[tabV t ve va vw] w fun e w' => ∃ xe xa xw, e = .returned (.tuple #[tabV (slimF t) xe xa xw, .int .i64 (latE t [] : Nat)]) ∧ TabIn w' xe xa xw (slimF t) ∧ Below w.heap.size w w' := by
  obtain ⟨iII, hJi, hJ0, hJ1, hJ2⟩ := info_parts infoII
  obtain ⟨W2, hW2⟩ : ∃ W2, W2 = (w.alloc (.cells #[.string (mkS t.name), ve, va, vw] 26)).alloc (.cells #[.string ⟨#[]⟩, .slice none 0 0, .slice none 0 0, .slice none 0 0] 26) := ⟨_, rfl⟩
  have b2 : Below w.heap.size w W2 := by rw [hW2]; exact ((Below.refl _ _).alloc (Nat.le_refl _) _).alloc (by simp) _
  have z2 : W2.heap[w.heap.size + 1]? = some (Obj.cells #[.string ⟨#[]⟩, .slice none 0 0, .slice none 0 0, .slice none 0 0] 26 (0, 0)) := by rw [hW2]; exact heap_alloc_at (by simp only [alloc_size])
  have C := Lib.hid (lattice_all t ve va vw (.slice none 0 0) [] W2 (hT.below b2) hS (hL.below b2) (Rd.nil _))
  have HLL := Lib.hid hL
  have k0 : W2.cell? ⟨w.heap.size, 0, none⟩ = some (.string (mkS t.name)) := by rw [hW2]; simp [go_sem]
  have k1 : W2.cell? ⟨w.heap.size, 1, none⟩ = some ve := by rw [hW2]; simp [go_sem]
  have k2 : W2.cell? ⟨w.heap.size, 2, none⟩ = some va := by rw [hW2]; simp [go_sem]
  have k3 : W2.cell? ⟨w.heap.size, 3, none⟩ = some vw := by rw [hW2]; simp [go_sem]
  have HW2 := Lib.hid hW2; have HB2 := Lib.hid b2; have Z2 := Lib.hid z2
  obtain ⟨E, hE⟩ : ∃ E, E = latE t [] := ⟨_, rfl⟩
  rw [← hE] at C
  have HE := Lib.hid hE
  obtain ⟨pe, ce, rfl⟩ := hT.e.form
  obtain ⟨pa, ca, rfl⟩ := hT.a.form
  obtain ⟨pw, cw, rfl⟩ := hT.w.form
  rw [← hE]
  clear hT hS hL hW2 b2 z2 hE k0 k1 k2 k3
  unfold tabV at C ⊢
  by_cases e0 : E = 0
  · have hne : ((E : Int) != 0) = false := by rw [bne_eq_false_iff_eq]; omega
    have HE0 := Lib.hid e0
    clear e0
    obtain ⟨hfm, hlt, _⟩ := latE_zero (HE.out.symm.trans HE0.out)
    obtain ⟨f1, f2, f3, f4⟩ := frm_len hfm
    have n12 : t.n ≤ 12 := f2
    obtain ⟨PT, hPT⟩ : ∃ PT : Nat → List Nat, PT = fun a => (List.range t.n).filter (cov t.R t.n a) := ⟨_, rfl⟩
    have CA : Hid (∀ W b a, Below w.heap.size w W → WalkedAt W b t → a < t.n → Calls Tryd.prog 42 #[.pointer (some ⟨b, 0, none⟩), .int .i64 (a : Nat)] W fun e w' => e = .returned (.int .u16 (covG t a : Nat)) ∧ Below W.heap.size W w') := fun W b a h hw ha =>
      rightAbove_any b t a W hw (HLL.out.below h).tabOk ha
    have CL : Hid (∀ W a, Below w.heap.size w W → Calls Tryd.prog 43 #[.int .u16 (covG t a : Nat)] W fun e w' => ∃ v, e = .returned v ∧ w'.ownsRow W.heap.size 3 1 v (PT a).length ((ints (PT a)).map (Value.int .i64)) ∧ Below W.heap.size W w') := fun W a h => by
      have := list_own (covG t a) W (grp_lt16 _ (by omega)) (HLL.out.below h).tabOk
      rw [show elems (covG t a) 16 = PT a by rw [hPT]; exact elems_grp _ (by omega)] at this
      exact this
    obtain ⟨n, hn⟩ : ∃ n, n = t.n := ⟨_, rfl⟩
    have hnE : t.elems.length = n := by rw [hn]; rfl
    have hnW : t.wrong.length = n := by rw [f4, hn]; rfl
    have HPT := Lib.hid hPT; have HN := Lib.hid hn; have HNE := Lib.hid hnE; have HNW := Lib.hid hnW
    have HF := Lib.hid hfm
    have hn12 : n ≤ 12 := by omega
    rw [← hn] at CA
    rw [hnE, hnW] at C HW2 ⊢
    clear hfm hlt hPT hn hnE hnW f1 f2 f3 f4 n12
    go_enter Tryd.func10, Tryd.ntmps10
    go_wp2_with fail
    rw [← HW2.out]
    refine C.out.mono ?_
    rintro e w1 ⟨p, rfl, hp, hb⟩
    obtain ⟨b, rfl, hw⟩ := hp HE0.out
    have HB1 := Lib.hid (HB2.out.trans (hb.mono HB2.out.size))
    have HD1 : Hid (Below W2.heap.size W2 w1) := hb
    have HWK := Lib.hid hw
    obtain ⟨xe, xa, xw, c0, c1, c2, c3, hTW⟩ := hw.cells
    obtain ⟨qe, de, rfl⟩ := hTW.e.form
    obtain ⟨qa, da, rfl⟩ := hTW.a.form
    obtain ⟨qw, dw, rfl⟩ := hTW.w.form
    have oneE : ∀ y ∈ t.elems.map strV, y.oneCell' = true := one_strs _
    have oneW : ∀ y ∈ t.wrong.map Value.bool, y.oneCell' = true := one_bools _
    obtain ⟨LE, hLE⟩ : ∃ L, L = t.elems.map strV := ⟨_, rfl⟩
    obtain ⟨LW, hLW⟩ : ∃ L, L = t.wrong.map Value.bool := ⟨_, rfl⟩
    have RE : Hid (Rd w1 (.slice qe t.elems.length de) LE) := by rw [hLE]; exact hTW.e
    have RW : Hid (Rd w1 (.slice qw t.wrong.length dw) LW) := by rw [hLW]; exact hTW.w
    have lE : LE.length = n := by rw [hLE, List.length_map]; exact HNE.out
    have lW : LW.length = n := by rw [hLW, List.length_map]; exact HNW.out
    rw [← hLE] at oneE
    rw [← hLW] at oneW
    have CE : Hid (∀ V, Below w1.heap.size w1 V → Calls Tryd.prog 40 #[.slice qe n de] V fun e w' => ∃ v', e = .returned v' ∧ w'.ownsRow w1.heap.size 9 1 v' LE.length LE ∧ Below V.heap.size V w') := fun V h => by
      have := cloneS_any (.slice qe t.elems.length de) LE V (RE.out.below h) oneE (by omega)
      rw [HNE.out] at this
      refine this.mono ?_
      rintro e w' ⟨v', h1, h2, h3⟩
      exact ⟨v', h1, ownsRow_base h2 h.size, h3⟩
    have CW : Hid (∀ V, Below w1.heap.size w1 V → Calls Tryd.prog 41 #[.slice qw n dw] V fun e w' => ∃ v', e = .returned v' ∧ w'.ownsRow w1.heap.size 4 1 v' LW.length LW ∧ Below V.heap.size V w') := fun V h => by
      have := cloneB_any (.slice qw t.wrong.length dw) LW V (RW.out.below h) oneW (by omega)
      rw [HNW.out] at this
      refine this.mono ?_
      rintro e w' ⟨v', h1, h2, h3⟩
      exact ⟨v', h1, ownsRow_base h2 h.size, h3⟩
    have HLE := Lib.hid hLE; have HLW := Lib.hid hLW; have HlE := Lib.hid lE; have HlW := Lib.hid lW
    rw [HNE.out] at c1
    rw [HNW.out] at c3
    have KB : Hid (∀ V, Below w1.heap.size w1 V → V.cell? ⟨b, 0, none⟩ = some (.string (mkS t.name)) ∧ V.cell? ⟨b, 1, none⟩ = some (.slice qe n de) ∧ V.cell? ⟨b, 3, none⟩ = some (.slice qw n dw)) := fun V h =>
      ⟨(h.cell (cell_lt c0)).trans c0, (h.cell (cell_lt c1)).trans c1, (h.cell (cell_lt c3)).trans c3⟩
    clear hb hw hp hTW c0 c1 c2 c3 oneE oneW hLE hLW RE RW lE lW
    go_upto_region 4 with fail
    go_cut [6] from 17 to 34 (fun x wx => ∃ q vE vW, x = .pointer (some ⟨q, 0, none⟩) ∧ w1.heap.size ≤ q ∧ Hid (SlI w1 q (.string (mkS t.name)) vE vW LE LW PT 0 wx))
    case first =>
      obtain ⟨k0, k1, k3⟩ := KB.out _ (Below.refl _ _)
      go_region_held3 (fun V => V.cell? ⟨b, 0, none⟩ = some (.string (mkS t.name)) ∧ V.cell? ⟨b, 1, none⟩ = some (.slice qe n de) ∧ V.cell? ⟨b, 3, none⟩ = some (.slice qw n dw))
        (exact KB.out _ (by repeat (first | with_reducible exact Below.refl _ _ | with_reducible refine Below.drew ?_ | with_reducible refine below_alloc ?_ _ | (with_reducible refine below_four ?_ ?_; · (first | exact Nat.le_refl _ | (have e1 := hbE.size; have e2 := hbW.size; (try simp only [drew_size, alloc_size] at e1 e2); omega) | (have e1 := hbE.size; (try simp only [drew_size, alloc_size] at e1); omega) | (have e1 := hbW.size; (try simp only [drew_size, alloc_size] at e1); omega))) | refine below_step (by with_reducible assumption) ?_ (Nat.le_refl _))))
        (first
          | (go_at_call 40; refine (CE.out _ (show Below w1.heap.size w1 _ from (by repeat (first | with_reducible exact Below.refl _ _ | with_reducible refine Below.drew ?_ | with_reducible refine below_alloc ?_ _ | refine below_step (by with_reducible assumption) ?_ (Nat.le_refl _))))).mono ?_; rintro e wE ⟨vE, rfl, hoE, hbE⟩; obtain ⟨pE, cE, rfl⟩ := ownsRow_slice hoE; first | (have hzE := heap_below hbE hzW; obtain ⟨⟨y0, y1, y2, y3⟩, g0, g1, g2, g3⟩ := four_cells hzE) | (have hzE := heap_below hbE (heap_drew (heap_alloc_at2 _ _)); (try simp only [drew_size] at hzE); obtain ⟨⟨y0, y1, y2, y3⟩, g0, g1, g2, g3⟩ := four_cells hzE) | (have hzE := heap_below hbE (heap_alloc_at2 _ _); (try simp only [drew_size] at hzE); obtain ⟨⟨y0, y1, y2, y3⟩, g0, g1, g2, g3⟩ := four_cells hzE) | skip)
          | (go_at_call 41; refine (CW.out _ (show Below w1.heap.size w1 _ from (by repeat (first | with_reducible exact Below.refl _ _ | with_reducible refine Below.drew ?_ | with_reducible refine below_alloc ?_ _ | refine below_step (by with_reducible assumption) ?_ (Nat.le_refl _))))).mono ?_; rintro e wW ⟨vW, rfl, hoW, hbW⟩; obtain ⟨pW, cW, rfl⟩ := ownsRow_slice hoW; first | (have hzW := heap_below hbW hzE; obtain ⟨⟨y0, y1, y2, y3⟩, g0, g1, g2, g3⟩ := four_cells hzW) | (have hzW := heap_below hbW (heap_drew (heap_alloc_at2 _ _)); (try simp only [drew_size] at hzW); obtain ⟨⟨y0, y1, y2, y3⟩, g0, g1, g2, g3⟩ := four_cells hzW) | (have hzW := heap_below hbW (heap_alloc_at2 _ _); (try simp only [drew_size] at hzW); obtain ⟨⟨y0, y1, y2, y3⟩, g0, g1, g2, g3⟩ := four_cells hzW) | skip))
      all_goals
        go_wp2_with fail
        go_meet
        refine ⟨_, .slice pE LE.length cE, .slice pW LW.length cW, rfl, ?_, ?_⟩
        · (first | exact Nat.le_refl _ | (have e1 := hbE.size; have e2 := hbW.size; (try simp only [drew_size, alloc_size] at e1 e2); omega) | (have e1 := hbE.size; (try simp only [drew_size, alloc_size] at e1); omega) | (have e1 := hbW.size; (try simp only [drew_size, alloc_size] at e1); omega))
        · show SlI _ _ _ _ _ _ _ _ _ _
          first
            | with_reducible refine sl_begin' ?_ ?_ ?_
            | (with_reducible refine sl_begin hzE ?_ ?_ ?_ ?_; · (first | exact Nat.le_refl _ | (have e1 := hbE.size; have e2 := hbW.size; (try simp only [drew_size, alloc_size] at e1 e2); omega) | (have e1 := hbE.size; (try simp only [drew_size, alloc_size] at e1); omega) | (have e1 := hbW.size; (try simp only [drew_size, alloc_size] at e1); omega)))
            | (with_reducible refine sl_begin hzW ?_ ?_ ?_ ?_; · (first | exact Nat.le_refl _ | (have e1 := hbE.size; have e2 := hbW.size; (try simp only [drew_size, alloc_size] at e1 e2); omega) | (have e1 := hbE.size; (try simp only [drew_size, alloc_size] at e1); omega) | (have e1 := hbW.size; (try simp only [drew_size, alloc_size] at e1); omega)))
          · refine ownsRow_below hoE (show Below wE.heap.size wE _ from ?_)
            (repeat (first | with_reducible exact Below.refl _ _ | with_reducible refine Below.drew ?_ | with_reducible refine below_alloc ?_ _ | refine below_step (by with_reducible assumption) ?_ (Nat.le_refl _)))
          · refine ownsRow_below hoW (show Below wW.heap.size wW _ from ?_)
            (repeat (first | with_reducible exact Below.refl _ _ | with_reducible refine Below.drew ?_ | with_reducible refine below_alloc ?_ _ | refine below_step (by with_reducible assumption) ?_ (Nat.le_refl _)))
          · show Below _ _ _
            (repeat (first | with_reducible exact Below.refl _ _ | with_reducible refine Below.drew ?_ | with_reducible refine below_alloc ?_ _ | refine below_step (by with_reducible assumption) ?_ (Nat.le_refl _)))
    case rest =>
      obtain ⟨q, vE, vW, rfl, hq0, hsl⟩ := hcut
      obtain ⟨_, k1, _⟩ := KB.out _ hsl.out.bel
      go_wp2_with fail
      go_loopw [41] (fun i wr => ∃ k : Nat, k ≤ n ∧ i = .int .i64 k ∧ Hid (SlI w1 q (.string (mkS t.name)) vE vW LE LW PT k wr)) (fun i _ => n - (intOf i).toNat)
      case atStart => exact ⟨0, Nat.zero_le _, rfl, hsl⟩
      case round =>
        clear k1 hsl
        obtain ⟨k, hk, rfl, hsl⟩ := hrel
        obtain ⟨vA, hqb, hA⟩ := hsl.out.row
        have HBr := Lib.hid (HB1.out.trans (hsl.out.bel.mono HB1.out.size))
        by_cases hlt : k < n
        · obtain ⟨xs, hown, hxs⟩ := hA.row
          have hq2 : wr.cell? ⟨q, 2, none⟩ = some vA := by simp [World.cell?, hqb]
          have lq : q < wr.heap.size := heap_lt hqb
          have HQ := Lib.hid hqb; have HO := Lib.hid hown; have HX := Lib.hid hxs
          have hs0 := hsl.out.bel.size
          obtain ⟨G, hG⟩ : ∃ G, G = covG t k := ⟨_, rfl⟩
          have CAr : Hid (∀ V, Below wr.heap.size wr V → Calls Tryd.prog 42 #[.pointer (some ⟨b, 0, none⟩), .int .i64 (k : Nat)] V fun e w' => e = .returned (.int .u16 (G : Nat)) ∧ Below V.heap.size V w') := fun V h => by
            rw [hG]
            exact CA.out V b k (HBr.out.trans (h.mono HBr.out.size)) (HWK.out.below (hsl.out.bel.trans (h.mono hsl.out.bel.size))) hlt
          have CLr : Hid (∀ V, Below wr.heap.size wr V → Calls Tryd.prog 43 #[.int .u16 (G : Nat)] V fun e w' => ∃ v, e = .returned v ∧ w'.ownsRow V.heap.size 3 1 v (PT k).length ((ints (PT k)).map (Value.int .i64)) ∧ Below V.heap.size V w') := fun V h => by
            rw [hG]
            exact CL.out V k (HBr.out.trans (h.mono HBr.out.size))
          clear hqb hown hxs hA hG
          go_wp2_with fail
          go_region_law (first
            | (with_reducible refine only_app 23 ?_; refine step_append_rd rfl _ _ 23 35 rfl iII _ 24 Tryd.underlying23 hJi hJ0 hJ1 hJ2 rfl (by decide) w1.heap.size vA (.slice (some ⟨w6.heap.size, 0, none⟩) 1 1) k xs [.slice pl (PT k).length cl] rfl (ownsRow_below HO.out (show Below wr.heap.size wr _ from (by repeat (first | with_reducible exact Below.refl _ _ | with_reducible refine Below.drew ?_ | with_reducible refine below_alloc ?_ _ | refine below_step (by with_reducible assumption) ?_ (Nat.le_refl _))))) rfl (rd_one1 (by repeat (first | with_reducible refine heap_drew ?_ | with_reducible exact heap_alloc_at (by simp only [alloc_size, drew_size]) | with_reducible refine heap_alloc_old ?_))) (by simp [Value.oneCell']) (by simp; omega) (by simp only [alloc_size, drew_size]; omega) ?_; intro vO wO hoO hgO; obtain ⟨pO, cO, rfl⟩ := ownsRow_slice hoO; have hqO := grown_heap HQ.out (by repeat (first | with_reducible exact Below.refl _ _ | with_reducible refine Below.drew ?_ | with_reducible refine below_alloc ?_ _ | refine below_step (by with_reducible assumption) ?_ (Nat.le_refl _))) HO.out (by decide) hgO; have hcO : wO.cell? ⟨q, 2, none⟩ = some vA := by simp [World.cell?, hqO]
               have hfO : wO.frozen? ⟨q, 2, none⟩ = false := Go.Joins.unfrozen_of_block hqO 2
               clear hqO)
            | (go_simp; go_at_call 42; refine (CAr.out _ (show Below wr.heap.size wr _ from (by repeat (first | with_reducible exact Below.refl _ _ | with_reducible refine Below.drew ?_ | with_reducible refine below_alloc ?_ _ | refine below_step (by with_reducible assumption) ?_ (Nat.le_refl _))))).mono ?_; rintro e w5 ⟨rfl, hb5⟩; have h5 : Below wr.heap.size wr w5 := below_step hb5 (show Below wr.heap.size wr _ from (by repeat (first | with_reducible exact Below.refl _ _ | with_reducible refine Below.drew ?_ | with_reducible refine below_alloc ?_ _ | refine below_step (by with_reducible assumption) ?_ (Nat.le_refl _)))) (Nat.le_refl _); have hq5 : w5.cell? ⟨q, 2, none⟩ = some vA := (h5.cell lq).trans hq2; have l5 : q < w5.heap.size := cell_lt hq5; have s5 := h5.size; clear hb5)
            | (go_simp; go_at_call 43; refine (CLr.out _ (show Below wr.heap.size wr _ from (by repeat (first | with_reducible exact Below.refl _ _ | with_reducible refine Below.drew ?_ | with_reducible refine below_alloc ?_ _ | refine below_step (by with_reducible assumption) ?_ (Nat.le_refl _))))).mono ?_; rintro e w6 ⟨vl, rfl, hol, hb6⟩; obtain ⟨pl, cl, rfl⟩ := ownsRow_slice hol; have h6 : Below wr.heap.size wr w6 := below_step hb6 (show Below wr.heap.size wr _ from (by repeat (first | with_reducible exact Below.refl _ _ | with_reducible refine Below.drew ?_ | with_reducible refine below_alloc ?_ _ | refine below_step (by with_reducible assumption) ?_ (Nat.le_refl _)))) (Nat.le_refl _); have hq6 : w6.cell? ⟨q, 2, none⟩ = some vA := (h6.cell lq).trans hq2; have l6 : q < w6.heap.size := cell_lt hq6; have s6 := h6.size; clear hb6))
          all_goals
            go_wp2
            go_roundw
            case rel => exact ⟨k + 1, by omega, by go_num, SlI.step hsl.out HQ.out HO.out HX.out hq0 (by repeat (first | with_reducible exact Below.refl _ _ | with_reducible refine Below.drew ?_ | with_reducible refine below_alloc ?_ _ | refine below_step (by with_reducible assumption) ?_ (Nat.le_refl _))) (ownsRow_base (ownsRow_below hol (by repeat (first | with_reducible exact Below.refl _ _ | with_reducible refine Below.drew ?_ | with_reducible refine below_alloc ?_ _))) (Nat.zero_le _)) hoO hgO⟩
            case measure => simp [intOf]; omega
        · have hkn : k = n := by omega
          rw [hkn] at hsl hA
          obtain ⟨⟨r0, r1, r2, r3⟩, _⟩ := four_cells hqb
          obtain ⟨pE, cE, rfl⟩ := ownsRow_slice hsl.out.e
          obtain ⟨pW, cW, rfl⟩ := ownsRow_slice hsl.out.w
          obtain ⟨pA, cA, rfl⟩ := hA.form
          have hzr := heap_below (HD1.out.trans (hsl.out.bel.mono HD1.out.size)) Z2.out
          obtain ⟨⟨y0, y1, y2, y3⟩, g0, g1, g2, g3⟩ := four_cells hzr
          have HZR := Lib.hid hzr; have HAA := Lib.hid hA
          have HSF : Hid (slimF t = slimT t) := by
            show _ = _
            unfold slimF
            rw [if_pos (by rw [← HE.out]; exact HE0.out)]
          clear hqb hA hzr hkn
          go_wp2
          change bodyPost _ _ _ _ _ (set4 wr (w.heap.size + 1) (.string (mkS t.name)) (.slice pE LE.length cE) (.slice pA n cA) (.slice pW LW.length cW))
          obtain ⟨WF, hWF⟩ : ∃ WF, WF = set4 wr (w.heap.size + 1) (.string (mkS t.name)) (.slice pE LE.length cE) (.slice pA n cA) (.slice pW LW.length cW) := ⟨_, rfl⟩
          rw [← hWF]
          have hzF := set4_heap (x0 := (.string (mkS t.name))) (x1 := (.slice pE LE.length cE)) (x2 := (.slice pA n cA)) (x3 := (.slice pW LW.length cW)) HZR.out
          rw [← hWF] at hzF
          have HWF := Lib.hid hWF
          obtain ⟨⟨v0, v1, v2, v3⟩, _⟩ := four_cells hzF
          clear hWF hzF
          have e1 := HLE.out
          have e2 := HLW.out
          subst e1; subst e2
          refine bodyPost_ret (v := .tuple #[.agg #[.string (mkS t.name), .slice pE (t.elems.map strV).length cE, .slice pA n cA, .slice pW (t.wrong.map Value.bool).length cW], .int .i64 0]) (by simp [results, Tryd.results10, go_sem, v0, v1, v2, v3]) rfl ⟨.slice pE (t.elems.map strV).length cE, .slice pA n cA, .slice pW (t.wrong.map Value.bool).length cW, ?_, ?_, ?_⟩
          · rw [HSF.out, HE0.out]; rfl
          · rw [HSF.out, HWF.out]
            have hl := slim_lens HF.out
            have hn2 := HN.out
            refine SlI.done (T := slimT t) hsl.out HAA.out HZR.out (by rw [hl.1]; exact hn2) (fun i hi => ?_) (fun i hi => ?_) ?_ (by omega) ?_
            · rw [hl.2.1 i (by omega), HPT.out]
            · have := hl.2.2 i
              rw [HPT.out]
              show ((List.range t.n).filter (cov t.R t.n i)).length ≤ 20
              omega
            · show t.elems.length ≤ 20; have := HNE.out; omega
            · show t.wrong.length ≤ 20; have := HNW.out; omega
          · rw [HWF.out]
            exact below_set4 HBr.out (Nat.le_succ _)
  · have hne : ((E : Int) != 0) = true := by rw [bne_iff_ne]; omega
    have HE0 := Lib.hid e0
    clear e0
    go_enter Tryd.func10, Tryd.ntmps10
    go_wp2_with fail
    rw [← HW2.out]
    refine C.out.mono ?_
    rintro e w1 ⟨p, rfl, hp, hb⟩
    have HB1 := Lib.hid (HB2.out.trans (hb.mono HB2.out.size))
    have hzr := heap_below hb Z2.out
    obtain ⟨⟨y0, y1, y2, y3⟩, g0, g1, g2, g3⟩ := four_cells hzr
    have HZR := Lib.hid hzr
    have HSF : Hid (slimF t = zeroT) := by
      show _ = _
      unfold slimF
      rw [if_neg (by rw [← HE.out]; exact HE0.out)]
    clear hb hp hzr
    go_wp2
    change bodyPost _ _ _ _ _ (set4 w1 (w.heap.size + 1) (.string ⟨#[]⟩) (.slice none 0 0) (.slice none 0 0) (.slice none 0 0))
    obtain ⟨WF, hWF⟩ : ∃ WF, WF = set4 w1 (w.heap.size + 1) (.string ⟨#[]⟩) (.slice none 0 0) (.slice none 0 0) (.slice none 0 0) := ⟨_, rfl⟩
    rw [← hWF]
    have hzF := set4_heap (x0 := (.string ⟨#[]⟩)) (x1 := (.slice none 0 0)) (x2 := (.slice none 0 0)) (x3 := (.slice none 0 0)) HZR.out
    rw [← hWF] at hzF
    have HWF := Lib.hid hWF
    obtain ⟨⟨v0, v1, v2, v3⟩, _⟩ := four_cells hzF
    clear hWF hzF
    refine bodyPost_ret (v := .tuple #[.agg #[.string ⟨#[]⟩, .slice none 0 0, .slice none 0 0, .slice none 0 0], .int .i64 (E : Nat)]) (by simp [results, Tryd.results10, go_sem, v0, v1, v2, v3]) rfl ⟨.slice none 0 0, .slice none 0 0, .slice none 0 0, ?_, ?_, ?_⟩
    · rw [HSF.out]; rfl
    · rw [HSF.out]; exact zeroT_in _
    · rw [HWF.out]
      exact below_set4 HB1.out (Nat.le_succ _)
end Go.Proofs.YtfhnigpjmljhbaaDoor.Or
