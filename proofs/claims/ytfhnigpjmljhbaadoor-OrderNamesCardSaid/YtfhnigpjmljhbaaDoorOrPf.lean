/- The reader of order: a table. -/
import Derived.Test.YtfhnigpjmljhbaaDoorOrPe
import Derived.Test.YtfhnigpjmljhbaaDoorOrLb
import Derived.Test.YtfhnigpjmljhbaaDoorOrMf
import Derived.Deep.CutRange
import Derived.Deep.RegionLaw
import Derived.Deep.Cut
set_option linter.unusedVariables false
set_option linter.unusedSimpArgs false
namespace Go.Proofs.YtfhnigpjmljhbaaDoor.Or
open Go.RowKit Go.Shelf Go.WideMaps Go.Maps

/-- What is left of a table's elements that are being read. -/
structure EsI (W : World) (b q : Nat) (nm : List UInt8) (lost : Bool) (N : Nat) (tot : List El × List UInt8) (v : Value) (more : Bool) (w : World) : Prop where
  st : ∃ (acc : List El) (r : List UInt8) (vE vW : Value), TbR W b q nm lost r (acc.map (·.1)) (acc.map (·.2.1)) (acc.map (·.2.2)) vE vW v w ∧ 2 * acc.length + r.length + (if more then 2 else 0) ≤ N + 2 ∧
    (∃ f, r.length < f ∧ tot = (acc ++ (if more then (elemsF f r).1 else []), if more then (elemsF f r).2 else r))

theorem infoSS : (Tryd.prog.info? 22).map (fun i => (i.zero, i.size, i.bytes)) = some (some (.slice none 0 0), 1, 24) := by kernel_rfl
/-- What a table is read as: the table, what is left, whether the reader is lost. -/
def tNm (rest : List UInt8) : List UInt8 := wordF (cutF [108, 97, 116, 116, 105, 99, 101, 32] rest)
def tR5 (rest : List UInt8) : List UInt8 := leftF (cutF [108, 97, 116, 116, 105, 99, 101, 32] rest)
def tR6 (rest : List UInt8) : List UInt8 := cutF [32, 123, 32] (tR5 rest)
def tEs (rest : List UInt8) : List El × List UInt8 := elemsF ((tR6 rest).length + 1) (tR6 rest)
def tE (rest : List UInt8) : List (List UInt8) := (tEs rest).1.map (fun e : El => e.1)
def tabF (rest : List UInt8) : Tab where
  name := tNm rest
  elems := tE rest
  above := (tEs rest).1.map fun e : El => ints (numsF (tE rest) e.2.2)
  wrong := (tEs rest).1.map (fun e : El => e.2.1)
def tLeft (rest : List UInt8) : List UInt8 := cutF [32, 125] (tEs rest).2
def tLost (rest : List UInt8) : Bool := !prefB [108, 97, 116, 116, 105, 99, 101, 32] rest || !prefB [32, 123, 32] (tR5 rest) || !prefB [32, 125] (tEs rest).2 || (tEs rest).1.any fun e : El => missF (tE rest) e.2.2

set_option maxRecDepth 100000 in
set_option maxHeartbeats 16000000 in
theorem table_any (b : Nat) (rest : List UInt8) (lost : Bool) (w : World) (hr : Rdr b rest lost w) (hs : rest.length ≤ 900) :
    Calls Tryd.prog 60 #[.pointer (some ⟨b, 0, none⟩)] w fun e w' => ∃ xe xa xw, e = .returned (tabV (tabF rest) xe xa xw) ∧ TyT w' xe xa xw (tabF rest) ∧ RdSt b (tLeft rest) (lost || tLost rest) w w' := by
  obtain ⟨iS, hSi, hS0, hS1, hS2⟩ := info_parts infoStr
  obtain ⟨iB, hBi, hB0, hB1, hB2⟩ := info_parts infoBool
  obtain ⟨iI, hIi, hI0, hI1, hI2⟩ := info_parts infoII
  obtain ⟨iSS, hSSi, hSS0, hSS1, hSS2⟩ := info_parts infoSS
  have hmm := @run_makeMap Tryd.prog
  have hbw : b < w.heap.size := heap_lt hr
  obtain ⟨W1, hW1⟩ : ∃ W1, W1 = w.alloc (.cells #[.string ⟨#[]⟩, .slice none 0 0, .slice none 0 0, .slice none 0 0] 26) := ⟨_, rfl⟩
  have hz1 : W1.heap[w.heap.size]? = some (.cells #[.string ⟨#[]⟩, .slice none 0 0, .slice none 0 0, .slice none 0 0] 26 (0, 0)) := by rw [hW1]; exact heap_alloc_at rfl
  have bw1 : Below w.heap.size w W1 := by rw [hW1]; exact (Below.refl _ _).alloc (Nat.le_refl _) _
  have hw1s : W1.heap.size = w.heap.size + 1 := by rw [hW1]; simp only [alloc_size]
  obtain ⟨q, hq⟩ : ∃ q, q = W1.heap.size := ⟨_, rfl⟩
  obtain ⟨W2, hW2⟩ : ∃ W2, W2 = W1.alloc (.cells #[.string ⟨#[]⟩, .slice none 0 0, .slice none 0 0, .slice none 0 0] 26) := ⟨_, rfl⟩
  have b2 : Below W1.heap.size W1 W2 := by rw [hW2]; exact (Below.refl _ _).alloc (Nat.le_refl _) _
  have hq2 : W2.heap[q]? = some (.cells #[.string (mkS []), .slice none 0 0, .slice none 0 0, .slice none 0 0] 26 (0, 0)) := by rw [hW2, hq]; exact heap_alloc_at rfl
  have hqW : W1.heap.size ≤ q := by omega
  have hqe : q = w.heap.size + 1 := by omega
  have hbW : b < W1.heap.size := by omega
  have t2 : TbR W1 b q [] lost rest [] [] [] (.slice none 0 0) (.slice none 0 0) (.slice none 0 0) W2 :=
    ⟨⟨(hr.below bw1).below b2, Below.diff b2 _⟩, hq2, ⟨rfl, .inl ⟨rfl, rfl⟩⟩, ⟨rfl, .inl ⟨rfl, rfl⟩⟩, [], ⟨rfl, .inl ⟨rfl, rfl⟩⟩, fun i h => by simp at h⟩
  have T2 := Lib.hid t2
  have HZB : Hid (∀ V, Diff (fun k => k = b) W1 V → V.heap[w.heap.size]? = some (.cells #[.string ⟨#[]⟩, .slice none 0 0, .slice none 0 0, .slice none 0 0] 26 (0, 0)) ∧ Diff (fun k => k = b) w V) := fun V h =>
    ⟨(h.block _ (by omega) (fun e => by have e' : w.heap.size = b := e; omega)).trans hz1, (Below.diff bw1 _).trans h⟩
  have HW2 : Hid (W2 = (w.alloc (.cells #[.string ⟨#[]⟩, .slice none 0 0, .slice none 0 0, .slice none 0 0] 26)).alloc (.cells #[.string ⟨#[]⟩, .slice none 0 0, .slice none 0 0, .slice none 0 0] 26)) := by show _ = _; rw [hW2, hW1]
  have HQ := Lib.hid hqe
  have HS1 := Lib.hid hw1s
  have HSR := Lib.hid hs
  have HBW0 := Lib.hid hbw
  clear hr b2 hz1 hq2 t2 hW2 hq hW1 bw1 hqe hw1s hbw
  go_enter Tryd.func60, Tryd.ntmps60
  go_wp2_with fail
  rw [← HW2.out, ← HQ.out]
  refine (read_any b rest [108, 97, 116, 116, 105, 99, 101, 32] lost W2 T2.out.rd.r).mono ?_
  rintro e w3 ⟨rfl, h3⟩
  have T3 := Lib.hid (T2.out.call h3)
  have l3 := cutF_len [108, 97, 116, 116, 105, 99, 101, 32] rest
  obtain ⟨r3, hr3⟩ : ∃ x, x = cutF [108, 97, 116, 116, 105, 99, 101, 32] rest := ⟨_, rfl⟩
  obtain ⟨lo3, hlo3⟩ : ∃ x, x = (lost || !prefB [108, 97, 116, 116, 105, 99, 101, 32] rest) := ⟨_, rfl⟩
  rw [← hr3, ← hlo3] at T3
  rw [← hr3] at l3
  have HR3 := Lib.hid hr3; have HLO3 := Lib.hid hlo3
  clear h3 hr3 hlo3
  go_wp2_with fail
  refine (word_any b r3 lo3 w3 T3.out.rd.r (by omega)).mono ?_
  rintro e w4 ⟨rfl, h4⟩
  have T4 := Lib.hid (T3.out.call h4)
  have T5 := Lib.hid (T4.out.setN (x := wordF r3) hqW)
  obtain ⟨⟨k0, k1, k2, k3⟩, g0, g1, g2, g3⟩ := T4.out.cells
  have l5 := leftF_len r3
  obtain ⟨nm, hnm⟩ : ∃ x, x = wordF r3 := ⟨_, rfl⟩
  obtain ⟨r5, hr5⟩ : ∃ x, x = leftF r3 := ⟨_, rfl⟩
  obtain ⟨W5, hW5⟩ : ∃ x, x = w4.setCell ⟨q, 0, none⟩ (.string (mkS nm)) := ⟨_, rfl⟩
  rw [← hnm, ← hr5, ← hW5] at T5
  rw [← hr5] at l5
  have HNM := Lib.hid hnm; have HR5 := Lib.hid hr5; have HW5 := Lib.hid hW5
  rw [← hnm]
  clear h4 hnm hr5 hW5
  go_upto_region 5 with fail
  rw [← HW5.out]
  clear k0 k1 k2 k3 g0 g1 g2 g3
  go_wp2_with fail
  refine (read_any b r5 [32, 123, 32] lo3 W5 T5.out.rd.r).mono ?_
  rintro e w6 ⟨rfl, h6⟩
  have T6 := Lib.hid (T5.out.call h6)
  have l6 := cutF_len [32, 123, 32] r5
  obtain ⟨r6, hr6⟩ : ∃ x, x = cutF [32, 123, 32] r5 := ⟨_, rfl⟩
  obtain ⟨lo6, hlo6⟩ : ∃ x, x = (lo3 || !prefB [32, 123, 32] r5) := ⟨_, rfl⟩
  rw [← hr6, ← hlo6] at T6
  rw [← hr6] at l6
  have HR6 := Lib.hid hr6; have HLO6 := Lib.hid hlo6
  obtain ⟨tot, htot⟩ : ∃ x, x = elemsF (r6.length + 1) r6 := ⟨_, rfl⟩
  have HTOT := Lib.hid htot
  have I6 : Hid (EsI W1 b q nm lo6 r6.length tot (.slice none 0 0) true w6) := ⟨[], r6, _, _, T6.out, by simp, r6.length + 1, by omega, by simp [htot]⟩
  have hN : r6.length ≤ 900 := by omega
  obtain ⟨N, hNe⟩ : ∃ x, x = r6.length := ⟨_, rfl⟩
  rw [← hNe] at I6 hN
  have HNE := Lib.hid hNe
  clear h6 hr6 hlo6 htot hNe l3 l5 l6 hs
  go_wp2_with fail
  go_loopw [4, 5] (fun v m wx => ∃ more : Bool, m = .bool more ∧ Hid (EsI W1 b q nm lo6 N tot v more wx)) (fun _ m wx => match m with | .bool true => lenAt wx b + 1 | _ => 0)
  case atStart => exact ⟨true, rfl, I6⟩
  case round =>
    clear I6
    obtain ⟨more, rfl, hst⟩ := hrel
    obtain ⟨acc, r, vE, vW, hT, hle, f, hf, htot⟩ := hst.out
    obtain ⟨xs, hxs, _⟩ := hT.oa
    obtain ⟨pE, cE, rfl⟩ := ownsRow_slice hT.oe
    obtain ⟨pW, cW, rfl⟩ := ownsRow_slice hT.ow
    obtain ⟨pA, cA, rfl⟩ := ownsRow_slice hxs
    have hlr := lenAt_of hT.rd.r
    cases more with
    | true =>
      simp only [if_true] at hle
      obtain ⟨Es, hEs⟩ : ∃ x, x = acc.map (fun e : El => e.1) := ⟨_, rfl⟩
      obtain ⟨Ws, hWs⟩ : ∃ x, x = acc.map (fun e : El => e.2.1) := ⟨_, rfl⟩
      obtain ⟨As, hAs⟩ : ∃ x, x = acc.map (fun e : El => e.2.2) := ⟨_, rfl⟩
      have lE : Es.length = acc.length := by rw [hEs]; simp
      have lW : Ws.length = acc.length := by rw [hWs]; simp
      have lA : As.length = acc.length := by rw [hAs]; simp
      rw [← hEs, ← hWs, ← hAs] at hT
      rw [← hAs]
      have HT := Lib.hid hT
      obtain ⟨⟨k0, k1, k2, k3⟩, g0, g1, g2, g3⟩ := hT.cells
      have hel := elemF_len r
      obtain ⟨f', rfl⟩ : ∃ f', f = f' + 1 := ⟨f - 1, by omega⟩
      have HTT : Hid (tot = (acc ++ (elemsF (f' + 1) r).1, (elemsF (f' + 1) r).2)) := by show _ = _; simpa using htot
      have HLR := Lib.hid hlr; have HF := Lib.hid hf
      have hrl : r.length ≤ 900 := by omega
      have CW : Hid (∀ V, Below wr.heap.size wr V → Calls Tryd.prog 99 #[.pointer (some ⟨b, 0, none⟩)] V fun e w' => e = .returned (.string (mkS (wordF r))) ∧ RdSt b (leftF r) lo6 V w') := fun V h => word_any b r lo6 V (HT.out.rd.r.below h) (by omega)
      obtain ⟨x, hx⟩ : ∃ x, x = wordF r := ⟨_, rfl⟩
      obtain ⟨r1, hr1⟩ : ∃ x, x = leftF r := ⟨_, rfl⟩
      rw [← hx, ← hr1] at CW
      have HX := Lib.hid hx; have HR1 := Lib.hid hr1
      have hs0 := hT.rd.d.size
      have lq : q < wr.heap.size := heap_lt hT.blk
      have hl1 : r1.length ≤ r.length := by rw [hr1]; exact leftF_len r
      have HEL := Lib.hid hel
      have HlE := Lib.hid lE; have HlW := Lib.hid lW; have HlA := Lib.hid lA
      have HEs := Lib.hid hEs; have HWs := Lib.hid hWs; have HAs := Lib.hid hAs
      clear hT hxs hEs hWs hAs lE lW lA hel htot hlr hf hst hx hr1
      go_upto_region 9 with fail
      go_cut [] from 20 to 26 (fun wx => ∃ p c, Hid (TbR W1 b q nm lo6 r1 (Es ++ [x]) Ws As (.slice p (Es.length + 1) c) (.slice pW Ws.length cW) (.slice pA As.length cA) wx))
      case first =>
        go_region_law (first
          | (with_reducible refine only_app 22 ?_; refine step_append_one rfl _ _ 22 9 rfl iS _ 16 Tryd.underlying22 hSi hS0 hS1 hS2 rfl (by decide) W1.heap.size (.slice pE Es.length cE) Es.length (Es.map strV) rfl (ownsRow_below H2.out.oe (show Below w2.heap.size w2 _ from (by repeat (first | with_reducible exact Below.refl _ _ | with_reducible refine Below.drew ?_ | with_reducible refine below_alloc ?_ _ | refine below_step (by with_reducible assumption) ?_ (Nat.le_refl _))))) _ (.string (mkS x)) rfl (cell_one (by repeat (first | with_reducible refine heap_drew ?_ | with_reducible exact heap_alloc_at (by simp only [alloc_size, drew_size]) | with_reducible refine heap_alloc_old ?_))) rfl (by have := HlE.out; omega) (by have := H2.out.rd.d.size; simp only [alloc_size, drew_size]; omega) ?_; intro pO cO wO hoO hgO hfO; have T9 := Lib.hid (TbR.putE (H2.out.below (by repeat (first | with_reducible exact Below.refl _ _ | with_reducible refine Below.drew ?_ | with_reducible refine below_alloc ?_ _ | refine below_step (by with_reducible assumption) ?_ (Nat.le_refl _)))) hbW hqW hoO hgO hfO); obtain ⟨⟨hcO, _⟩, hfz, _⟩ := grown_cells (H2.out.below (by repeat (first | with_reducible exact Below.refl _ _ | with_reducible refine Below.drew ?_ | with_reducible refine below_alloc ?_ _ | refine below_step (by with_reducible assumption) ?_ (Nat.le_refl _)))) (by decide) (ownsRow_below H2.out.oe (show Below w2.heap.size w2 _ from (by repeat (first | with_reducible exact Below.refl _ _ | with_reducible refine Below.drew ?_ | with_reducible refine below_alloc ?_ _ | refine below_step (by with_reducible assumption) ?_ (Nat.le_refl _))))) hgO)
          | (go_simp; go_at_call 99; refine (CW.out _ (show Below wr.heap.size wr _ from (by repeat (first | with_reducible exact Below.refl _ _ | with_reducible refine Below.drew ?_ | with_reducible refine below_alloc ?_ _ | refine below_step (by with_reducible assumption) ?_ (Nat.le_refl _))))).mono ?_; rintro e w2 ⟨rfl, h2⟩; have H2 := Lib.hid ((HT.out.below (show Below wr.heap.size wr _ from (by repeat (first | with_reducible exact Below.refl _ _ | with_reducible refine Below.drew ?_ | with_reducible refine below_alloc ?_ _ | refine below_step (by with_reducible assumption) ?_ (Nat.le_refl _))))).call h2); obtain ⟨⟨m0, m1, m2, m3⟩, _⟩ := H2.out.cells; have lq2 : q < w2.heap.size := heap_lt H2.out.blk; clear h2))
        all_goals
          go_wp2_with fail
          go_meet
          exact ⟨_, _, T9⟩
      case rest =>
        clear k0 k1 k2 k3 g0 g1 g2 g3 CW HT
        obtain ⟨p9, c9, hT9⟩ := hcut
        obtain ⟨⟨k0, k1, k2, k3⟩, g0, g1, g2, g3⟩ := hT9.out.cells
        have lq : q < wc.heap.size := heap_lt hT9.out.blk
        have CS : Hid (∀ V, Below wc.heap.size wc V → Calls Tryd.prog 100 #[.pointer (some ⟨b, 0, none⟩), .string ⟨#[33]⟩] V fun e w' => e = .returned (.bool (prefB [33] r1)) ∧ RdSt b (cutF [33] r1) lo6 V w') := fun V h => skip_any b r1 [33] lo6 V (hT9.out.rd.r.below h)
        obtain ⟨y, hy⟩ : ∃ x, x = prefB [33] r1 := ⟨_, rfl⟩
        obtain ⟨r2, hr2⟩ : ∃ x, x = cutF [33] r1 := ⟨_, rfl⟩
        rw [← hy, ← hr2] at CS
        have hl2 : r2.length ≤ r1.length := by rw [hr2]; exact cutF_len _ _
        have HY := Lib.hid hy; have HR2 := Lib.hid hr2
        clear hy hr2
        go_upto_region 10 with fail
        go_cut [] from 27 to 33 (fun wx => ∃ p c, Hid (TbR W1 b q nm lo6 r2 (Es ++ [x]) (Ws ++ [y]) As (.slice p9 (Es.length + 1) c9) (.slice p (Ws.length + 1) c) (.slice pA As.length cA) wx))
        case first =>
          go_region_law (first
            | (with_reducible refine only_app 24 ?_; refine step_append_one rfl _ _ 24 4 rfl iB _ 1 Tryd.underlying24 hBi hB0 hB1 hB2 rfl (by decide) W1.heap.size (.slice pW Ws.length cW) Ws.length (Ws.map Value.bool) rfl (ownsRow_below H2.out.ow (show Below w2.heap.size w2 _ from (by repeat (first | with_reducible exact Below.refl _ _ | with_reducible refine Below.drew ?_ | with_reducible refine below_alloc ?_ _ | refine below_step (by with_reducible assumption) ?_ (Nat.le_refl _))))) _ (.bool y) rfl (cell_one (by repeat (first | with_reducible refine heap_drew ?_ | with_reducible exact heap_alloc_at (by simp only [alloc_size, drew_size]) | with_reducible refine heap_alloc_old ?_))) rfl (by have := HlW.out; omega) (by have := H2.out.rd.d.size; simp only [alloc_size, drew_size]; omega) ?_; intro pO cO wO hoO hgO hfO; have T10 := Lib.hid (TbR.putW (H2.out.below (by repeat (first | with_reducible exact Below.refl _ _ | with_reducible refine Below.drew ?_ | with_reducible refine below_alloc ?_ _ | refine below_step (by with_reducible assumption) ?_ (Nat.le_refl _)))) hbW hqW hoO hgO); obtain ⟨⟨_, hcO⟩, _, hfz⟩ := grown_cells (H2.out.below (by repeat (first | with_reducible exact Below.refl _ _ | with_reducible refine Below.drew ?_ | with_reducible refine below_alloc ?_ _ | refine below_step (by with_reducible assumption) ?_ (Nat.le_refl _)))) (by decide) (ownsRow_below H2.out.ow (show Below w2.heap.size w2 _ from (by repeat (first | with_reducible exact Below.refl _ _ | with_reducible refine Below.drew ?_ | with_reducible refine below_alloc ?_ _ | refine below_step (by with_reducible assumption) ?_ (Nat.le_refl _))))) hgO)
            | (go_simp; go_at_call 100; refine (CS.out _ (show Below wc.heap.size wc _ from (by repeat (first | with_reducible exact Below.refl _ _ | with_reducible refine Below.drew ?_ | with_reducible refine below_alloc ?_ _ | refine below_step (by with_reducible assumption) ?_ (Nat.le_refl _))))).mono ?_; rintro e w2 ⟨rfl, h2⟩; have H2 := Lib.hid ((hT9.out.below (show Below wc.heap.size wc _ from (by repeat (first | with_reducible exact Below.refl _ _ | with_reducible refine Below.drew ?_ | with_reducible refine below_alloc ?_ _ | refine below_step (by with_reducible assumption) ?_ (Nat.le_refl _))))).call h2); obtain ⟨⟨m0, m1, m2, m3⟩, _⟩ := H2.out.cells; have lq2 : q < w2.heap.size := heap_lt H2.out.blk; clear h2))
          all_goals
            go_wp2_with fail
            go_meet
            exact ⟨_, _, T10⟩
        case rest =>
          clear k0 k1 k2 k3 g0 g1 g2 g3 CS hT9 lq
          obtain ⟨p10, c10, hT10⟩ := hcut
          obtain ⟨xs, hxs, hxi⟩ := hT10.out.oa
          have HXS := Lib.hid hxs; have HXI := Lib.hid hxi
          have CA := Lib.hid (above_any' b r2 lo6 wc hT10.out.rd.r (by omega))
          obtain ⟨l, hl⟩ : ∃ x, x = (aboveF r2).1 := ⟨_, rfl⟩
          obtain ⟨r3', hr3'⟩ : ∃ x, x = (aboveF r2).2 := ⟨_, rfl⟩
          rw [← hl, ← hr3'] at CA
          have hl3 : r3'.length ≤ r2.length := by rw [hr3']; have := aboveF_len r2; omega
          have HL := Lib.hid hl; have HR3' := Lib.hid hr3'
          clear hxs hxi hl hr3'
          go_wp2_with fail
          refine CA.out.mono ?_
          rintro e w11 ⟨vl, rfl, hvl, _, h11⟩
          have T11 := Lib.hid (hT10.out.call h11)
          have hxs11 := ownsRow_type HXS.out hT10.out.rd.r (by decide) h11.d
          have hxi11 : ∀ i (h : i < xs.length), w11.ownsRow 0 9 1 xs[i] (As.getD i []).length ((As.getD i []).map strV) ∧ (xs[i].ownBlock = none ∨ xs[i].ownBlock ≠ (Value.slice p9 (Es.length + 1) c9).ownBlock) := fun i h => ⟨ownsRow_type (HXI.out i h).1 hT10.out.rd.r (by decide) h11.d, (HXI.out i h).2⟩
          have hne11 : vl.ownBlock = none ∨ vl.ownBlock ≠ (Value.slice p9 (Es.length + 1) c9).ownBlock := by
            cases hb : vl.ownBlock with
            | none => exact .inl rfl
            | some k =>
              refine .inr fun e => ?_
              have h1 := (hvl.lt k hb).1
              have h2 := (hT10.out.oe.lt k e.symm).2
              omega
          obtain ⟨pl, cl, rfl⟩ := ownsRow_slice hvl
          have HVL := Lib.hid (ownsRow_base hvl (Nat.zero_le _))
          have HXS11 := Lib.hid hxs11; have HXI11 := Lib.hid hxi11; have HNE11 := Lib.hid hne11
          have hs11 := T11.out.rd.d.size
          have Hlxs : Hid (xs.length = As.length) := by show _ = _; have := HXS.out.1; omega
          clear hvl h11 hxs11 hxi11 hne11 CA
          go_wp2_with (at_builtin; refine wpList_append_one rfl _ _ 125 22 rfl iSS _ 24 Tryd.underlying125 hSSi hSS0 hSS1 hSS2 rfl (by decide) W1.heap.size _ As.length xs rfl (HXS11.out.alloc _) w11.heap.size (.slice pl l.length cl) rfl ?c2 rfl (by have := HlA.out; omega) (by simp only [alloc_size]; omega) ?_)
          case c2 => exact cell_one (heap_alloc_at rfl)
          intro pO cO wO hoO hgO hfO
          have hbO : Below w11.heap.size w11 (w11.alloc (.cells #[.slice pl l.length cl] 22)) := (Below.refl _ _).alloc (Nat.le_refl _) _
          have T12 := Lib.hid (TbR.putA (T11.out.below hbO) hbW (HXS11.out.alloc _) (fun i h => ⟨(HXI11.out i h).1.alloc _, (HXI11.out i h).2⟩) (HVL.out.alloc _) HNE11.out hoO hgO)
          clear hoO hgO hfO hbO
          have CS := Lib.hid (skip_any b r3' [59, 32] lo6 wO T12.out.rd.r)
          obtain ⟨y', hy'⟩ : ∃ x, x = prefB [59, 32] r3' := ⟨_, rfl⟩
          obtain ⟨r4, hr4⟩ : ∃ x, x = cutF [59, 32] r3' := ⟨_, rfl⟩
          rw [← hy', ← hr4] at CS
          have hfin : ∀ w4, RdSt b r4 lo6 wO w4 → Hid (EsI W1 b q nm lo6 N tot (.slice pO (As.length + 1) cO) y' w4) ∧ (y' = true → lenAt w4 b < lenAt wr b) := fun w4 h4 => by
            have h4l : lenAt w4 b = r4.length := lenAt_of h4.r
            rw [h4l, HLR.out]
            have h3 := HTT.out
            have e1 : elemF r = ((x, y, l), r3') := by unfold elemF; rw [← HX.out, ← HR1.out, ← HY.out, ← HR2.out, ← HL.out, ← HR3'.out]
            have T13 := T12.out.call h4
            have a1 : Es ++ [x] = (acc ++ [(x, y, l)]).map (fun e : El => e.1) := by rw [HEs.out]; simp
            have a2 : Ws ++ [y] = (acc ++ [(x, y, l)]).map (fun e : El => e.2.1) := by rw [HWs.out]; simp
            have a3 : As ++ [l] = (acc ++ [(x, y, l)]).map (fun e : El => e.2.2) := by rw [HAs.out]; simp
            rw [a1, a2, a3] at T13
            unfold elemsF at h3
            rw [e1] at h3
            simp only at h3
            cases hyy : y' with
            | true =>
              rw [← hy', hyy, ← hr4] at h3
              simp only [if_true] at h3
              have hcl : r4.length + 2 = r3'.length := by rw [hr4]; exact cutF_less (tx := [59, 32]) (by rw [← hy', hyy])
              have hff := HF.out
              refine ⟨⟨_, r4, _, _, T13, ?_, f', by omega, ?_⟩, fun _ => by omega⟩
              · simp; omega
              · rw [h3]; simp
            | false =>
              rw [← hy', hyy] at h3
              simp only [Bool.false_eq_true, if_false] at h3
              have hcn : r4 = r3' := by rw [hr4]; exact cutF_no (by rw [← hy', hyy])
              refine ⟨⟨_, r4, _, _, T13, ?_, r4.length + 1, by omega, ?_⟩, fun h => by cases h⟩
              · rw [hcn]; simp; omega
              · rw [h3, hcn]; simp
          have HFIN := Lib.hid hfin
          clear hy' hr4 hfin hl1 hl2 hl3 hT10 T11 HXS HXI HXS11 HXI11 HNE11 HVL hs11 hs0 T12 Hlxs
          go_wp2_with fail
          refine CS.out.mono ?_
          rintro e w14 ⟨rfl, h4⟩
          have H4 := Lib.hid (HFIN.out w14 h4)
          clear h4 CS HFIN
          go_wp2
          go_roundw
          case rel => exact ⟨y', rfl, H4.out.1⟩
          case measure =>
            have := H4.out.2
            cases y' with
            | true => simp only; have := this rfl; omega
            | false => simp only; omega
    | false =>
      clear hlr hf
      have htot2 : tot = (acc, r) := by simpa using htot
      have hes : tEs rest = (acc, r) := by rw [← htot2, HTOT.out, HR6.out, HR5.out, HR3.out]; rfl
      have hels := elemsF_len (r6.length + 1) r6
      rw [← HTOT.out, htot2] at hels
      simp only at hels
      obtain ⟨Es, hEs⟩ : ∃ x, x = acc.map (fun e : El => e.1) := ⟨_, rfl⟩
      obtain ⟨Ws, hWs⟩ : ∃ x, x = acc.map (fun e : El => e.2.1) := ⟨_, rfl⟩
      obtain ⟨As, hAs⟩ : ∃ x, x = acc.map (fun e : El => e.2.2) := ⟨_, rfl⟩
      rw [← hEs, ← hWs, ← hAs] at hT
      rw [← hAs] at hxs ⊢
      have lE : Es.length = acc.length := by rw [hEs]; simp
      have lW : Ws.length = acc.length := by rw [hWs]; simp
      have lA : As.length = acc.length := by rw [hAs]; simp
      have hn460 : acc.length ≤ 460 := by have := hels.1; have := HNE.out; omega
      have hrl : r.length ≤ 902 := by have := hels.1; have := HNE.out; omega
      have LE : Hid (Es.length ≤ 460) := by show _ ≤ _; omega
      have LA : Hid (As.length = Es.length) := by show _ = _; omega
      have LW : Hid (Ws.length = Es.length) := by show _ = _; omega
      have KL : Hid (∀ k, k < Es.length → (Es.getD k []).length ≤ 900) := fun k hk => by
        have h1 : Es.getD k [] ∈ Es := by simp [List.getD_eq_getElem?_getD, hk]
        rw [hEs, List.mem_map] at h1
        obtain ⟨e, he, h1⟩ := h1
        have := (hels.2 e he).1; have := HNE.out
        rw [hEs] at *
        rw [← h1]; omega
      have AL : Hid (∀ k, k < As.length → (As.getD k []).length ≤ 900 ∧ ∀ x ∈ As.getD k [], x.length ≤ 900) := fun k hk => by
        have h1 : As.getD k [] ∈ As := by simp [List.getD_eq_getElem?_getD, hk]
        rw [hAs, List.mem_map] at h1
        obtain ⟨e, he, h1⟩ := h1
        have h2 := (hels.2 e he).2; have := HNE.out
        rw [hAs] at *
        rw [← h1]
        exact ⟨by omega, fun x hx => by have := h2.2 x hx; omega⟩
      obtain ⟨PT, hPT⟩ : ∃ P : Nat → List Nat, P = fun k => numsF Es (As.getD k []) := ⟨_, rfl⟩
      have HTAB : Hid (tabF rest = ⟨nm, Es, (List.range As.length).map fun k => ints (PT k), Ws⟩) := by
        show _ = _
        unfold tabF tE
        rw [hes]
        simp only
        rw [← hEs, ← hWs]
        have e1 : tNm rest = nm := by rw [HNM.out, HR3.out]; rfl
        have e2 : (acc.map fun e : El => ints (numsF Es e.2.2)) = (List.range As.length).map fun k => ints (PT k) := by
          rw [hPT]
          refine List.ext_getElem (by simp [lA]) fun i h1 h2 => ?_
          have h1' : i < acc.length := by simpa using h1
          simp only [List.getElem_map, List.getElem_range]
          have : As.getD i [] = (acc[i]).2.2 := by rw [hAs]; simp [List.getD_eq_getElem?_getD, h1']
          rw [this]
        rw [e1, e2]
      have HLEFT : Hid (tLeft rest = cutF [32, 125] r) := by show _ = _; unfold tLeft; rw [hes]
      have HLOST : Hid ((lost || tLost rest) = ((lo6 || !prefB [32, 125] r) || As.any fun l => missF Es l)) := by
        show _ = _
        unfold tLost tE
        rw [hes]
        simp only
        rw [← hEs, HLO6.out, HLO3.out, HR5.out, HR3.out, hAs, List.any_map]
        simp only [Bool.or_assoc, Function.comp_def]
        rfl
      have T := Lib.hid hT
      have HES := Lib.hid hEs; have HAS := Lib.hid hAs; have HPT := Lib.hid hPT
      clear hT hst htot htot2 hes hels hEs hWs hAs lE lW lA hn460 hPT hle
      go_wp2_with fail
      refine (read_any b r [32, 125] lo6 wr T.out.rd.r).mono ?_
      rintro e w8 ⟨rfl, h8⟩
      have T8 := Lib.hid (T.out.call h8)
      obtain ⟨r8, hr8⟩ : ∃ x, x = cutF [32, 125] r := ⟨_, rfl⟩
      obtain ⟨lo8, hlo8⟩ : ∃ x, x = (lo6 || !prefB [32, 125] r) := ⟨_, rfl⟩
      rw [← hr8, ← hlo8] at T8
      rw [← hr8] at HLEFT
      rw [← hlo8] at HLOST
      obtain ⟨⟨k0, k1, k2, k3⟩, _⟩ := T8.out.cells
      have lq8 : q < w8.heap.size := heap_lt T8.out.blk
      clear h8 hr8 hlo8 hrl
      go_wp2_with fail
      obtain ⟨mb, hmb⟩ : ∃ x, x = w8.heap.size := ⟨_, rfl⟩
      obtain ⟨W9, hW9⟩ : ∃ x, x = w8.alloc (Obj.map #[] 0) := ⟨_, rfl⟩
      have T9 := Lib.hid (T8.out.below (show Below w8.heap.size w8 W9 by rw [hW9]; exact (Below.refl _ _).alloc (Nat.le_refl _) _))
      have hm9 : W9.ownsMap Tryd.prog 9 (plainElem (H := Unit) Tryd.prog 3) mb 0 (putN Es 0) := by
        rw [hW9, hmb]
        exact World.ownsMap_made (H := Unit) w8 Tryd.prog 9 (plainElem (H := Unit) Tryd.prog 3)
      have hmW : W1.heap.size ≤ mb := by rw [hmb]; exact T8.out.rd.d.size
      have M9 := Lib.hid hm9
      have HW9 := Lib.hid hW9; have HMB := Lib.hid hmb
      rw [← hW9, ← hmb]
      clear hm9 hW9 hmb k0 k1 k2 k3 lq8
      go_loopw [45] (fun i wx => ∃ k : Nat, k ≤ Es.length ∧ i = .int .i64 k ∧ Hid (TbR W1 b q nm lo8 r8 Es Ws As (.slice pE Es.length cE) (.slice pW Ws.length cW) (.slice pA As.length cA) wx ∧ wx.ownsMap Tryd.prog 9 (plainElem (H := Unit) Tryd.prog 3) mb k (putN Es k))) (fun i _ => Es.length - (intOf i).toNat)
      case atStart => exact ⟨0, Nat.zero_le _, rfl, T9.out, M9.out⟩
      case round =>
        clear T9 M9 T8 HW9
        obtain ⟨k, hk, rfl, hst⟩ := hrel
        have HST := hst
        obtain ⟨hT, hm⟩ := hst.out
        obtain ⟨⟨k0, k1, k2, k3⟩, _⟩ := hT.cells
        have hle := LE.out
        by_cases hlt : k < Es.length
        · obtain ⟨gE, oE, rfl, hcell⟩ := (rd_own (vs := Es.map strV) (by rw [List.length_map]; exact hT.oe) (by rw [List.length_map]; have := LE.out; omega) : Rd _ _ _) |> fun h => (show ∃ b off, pE = some ⟨b, off, none⟩ ∧ _ from Rd.cell (show Rd wr (.slice pE Es.length cE) (Es.map strV) from h) (i := k) (by rw [List.length_map]; exact hlt))
          obtain ⟨x, hx⟩ : ∃ x, x = Es.getD k [] := ⟨_, rfl⟩
          have hcell2 : wr.cell? ⟨gE, oE + k, none⟩ = some (.string (mkS x)) := by rw [hcell, hx]; simp [strV, List.getD_eq_getElem?_getD, hlt]
          have HKEY := Lib.hid (key_mk x (by rw [hx]; have := KL.out k hlt; omega))
          have HX := Lib.hid hx
          have hwf : (Lit.int .i64 (k : Nat)).wf = true := by
            have h0 := LE.out
            have h1 : IntKind.i64.min = -9223372036854775808 := rfl
            have h2 : IntKind.i64.max = 9223372036854775807 := rfl
            simp only [Lit.wf, h1, h2, Bool.and_eq_true, decide_eq_true_eq]; omega
          have HWF := Lib.hid hwf
          have HT := Lib.hid hT
          have HMM := Lib.hid hm
          clear hcell hx hT hm hst hwf
          go_wp2_with (first
            | (at_mapUpdate; refine wpList_mapUpdate_own _ rfl _ _ _ 129 rfl 9 3 klaw Tryd.underlying129 _ mb k _ rfl HMM.out (by unfold maxLen; have := LE.out; omega) _ _ _ rfl rfl HKEY.out _ [] (plainElem_int Tryd.underlying3 HWF.out) ?_)
            | go_in)
          intro w1 hown1 hgrow1
          have hfin : Hid (TbR W1 b q nm lo8 r8 Es Ws As (.slice (some ⟨gE, oE, none⟩) Es.length cE) (.slice pW Ws.length cW) (.slice pA As.length cA) w1 ∧ w1.ownsMap Tryd.prog 9 (plainElem (H := Unit) Tryd.prog 3) mb (k + 1) (putN Es (k + 1))) :=
            ⟨HT.out.map hbW hmW HMM.out hgrow1, by rw [show putN Es (k + 1) = (putN Es k).put (.string (Es.getD k [])) (.lit (.int .i64 k)) from rfl, ← HX.out]; exact hown1⟩
          clear hown1 hgrow1 k0 k1 k2 k3 hcell2 HST
          go_wp2
          go_roundw
          case rel => exact ⟨k + 1, by omega, by go_num, hfin⟩
          case measure => simp [intOf]; omega
        · have hkn : k = Es.length := by omega
          subst hkn
          obtain ⟨xs, hxs2, hxi⟩ := hT.oa
          have T11 : Hid (TnR W1 b q mb nm (lo8 || (As.take 0).any fun l => missF Es l) r8 Es Ws As (.slice pE Es.length cE) (.slice pW Ws.length cW) (.slice pA As.length cA) xs PT 0 (.slice none 0 0) wr) :=
            ⟨by simpa using hT.rd, hT.blk, hT.oe, hT.ow, hxs2, fun i hi => (hxi i hi).1, ⟨[], ⟨rfl, .inl ⟨rfl, rfl⟩⟩, fun i h => by simp at h⟩, hm⟩
          have Hlxs : Hid (xs.length = As.length) := by show _ = _; have := hxs2.1; omega
          clear hT hm hst HST hxs2 hxi
          go_wp2_with fail
          clear k0 k1 k2 k3
          go_loopw [58] (fun i wx => ∃ k : Nat, k ≤ As.length ∧ i = .int .i64 k ∧ ∃ vB, Hid (TnR W1 b q mb nm (lo8 || (As.take k).any fun l => missF Es l) r8 Es Ws As (.slice pE Es.length cE) (.slice pW Ws.length cW) (.slice pA As.length cA) xs PT k vB wx)) (fun i _ => As.length - (intOf i).toNat)
          case atStart => exact ⟨0, Nat.zero_le _, rfl, _, T11⟩
          case round =>
            clear T11
            obtain ⟨k, hk, rfl, vB, hst⟩ := hrel
            obtain ⟨ys, hys, hyi⟩ := hst.out.al.row
            obtain ⟨pB, cB, rfl⟩ := ownsRow_slice hys
            have hleA : As.length ≤ 460 := by have := LE.out; have := LA.out; omega
            obtain ⟨⟨k0, k1, k2, k3⟩, g0, g1, g2, g3⟩ := hst.out.cells
            have lq : q < wr.heap.size := heap_lt hst.out.blk
            by_cases hlt : k < As.length
            · have hkx : k < xs.length := by have := Hlxs.out; omega
              have hoa : wr.ownsRow W1.heap.size 22 1 (.slice pA As.length cA) xs.length xs := by have h1 := hst.out.oa; have h2 := Hlxs.out; rw [h2]; exact h1
              obtain ⟨gA, oA, rfl, hcell⟩ : ∃ b off, pA = some ⟨b, off, none⟩ ∧ wr.cell? ⟨b, off + k, none⟩ = some xs[k] := Rd.cell (show Rd wr (.slice pA As.length cA) xs from rd_own hoa (by have := Hlxs.out; omega)) (i := k) hkx
              obtain ⟨l, hl⟩ : ∃ x, x = As.getD k [] := ⟨_, rfl⟩
              have hoi := hst.out.oi k hkx
              rw [← hl] at hoi
              obtain ⟨px, cx, hxe⟩ := ownsRow_slice hoi
              rw [hxe] at hcell hoi
              have hal := AL.out k hlt
              rw [← hl] at hal
              have hpk : PT k = numsF Es l := by rw [HPT.out, hl]
              have htk : ((As.take (k + 1)).any fun l => missF Es l) = (((As.take k).any fun l => missF Es l) || missF Es l) := by
                rw [List.take_succ_eq_append_getElem hlt, List.any_append]
                have : As[k] = l := by rw [hl]; simp [List.getD_eq_getElem?_getD, hlt]
                simp [this]
              obtain ⟨lo, hlo⟩ : ∃ x, x = (lo8 || (As.take k).any fun l => missF Es l) := ⟨_, rfl⟩
              obtain ⟨m, hm⟩ : ∃ x, x = missF Es l := ⟨_, rfl⟩
              rw [← hlo] at hst
              have HLO : Hid ((lo8 || (As.take (k + 1)).any fun l => missF Es l) = (lo || m)) := by show _ = _; rw [htk, hlo, hm, Bool.or_assoc]
              have HST := hst
              have HOI := Lib.hid hoi
              have CN : Hid (∀ V, Below wr.heap.size wr V → Calls Tryd.prog 102 #[.pointer (some ⟨b, 0, none⟩), .slice px l.length cx, .map (some mb)] V fun e w' => ∃ p c, e = .returned (.slice p (PT k).length c) ∧ w'.ownsRow V.heap.size 3 1 (.slice p (PT k).length c) (PT k).length ((ints (PT k)).map (Value.int .i64)) ∧ RdSt b r8 (lo || m) V w') := fun V h => by
                refine (numbered_any b mb r8 lo Es l _ V (HST.out.rd.r.below h) (ownsRow_below HOI.out h) hal.1 (by have := LE.out; omega) (fun x hx => by have := hal.2 x hx; omega) (ownsMap_at HST.out.mp (h.block mb HST.out.mp.lt))).mono ?_
                rintro e w' ⟨u, rfl, h1, h2⟩
                obtain ⟨p, c, rfl⟩ := ownsRow_slice h1
                rw [hpk, hm]
                exact ⟨p, c, rfl, h1, h2⟩
              have HYS := Lib.hid hys; have HYI := Lib.hid hyi
              clear hst hys hyi hoa hl hoi hxe hal hpk htk hlo hm hkx
              go_wp2_with fail
              go_region_law (first
                | (with_reducible refine only_app 23 ?_; refine step_append_one rfl _ _ 23 35 rfl iI _ 24 Tryd.underlying23 hIi hI0 hI1 hI2 rfl (by decide) W1.heap.size (.slice pB k cB) k ys rfl (ownsRow_below HY2.out (show Below w2.heap.size w2 _ from (by repeat (first | with_reducible exact Below.refl _ _ | with_reducible refine Below.drew ?_ | with_reducible refine below_alloc ?_ _ | refine below_step (by with_reducible assumption) ?_ (Nat.le_refl _))))) _ (.slice pu (PT k).length cu) rfl (cell_one (by repeat (first | with_reducible refine heap_drew ?_ | with_reducible exact heap_alloc_at (by simp only [alloc_size, drew_size]) | with_reducible refine heap_alloc_old ?_))) rfl (by omega) (by have := H2.out.rd.d.size; simp only [alloc_size, drew_size]; omega) ?_; intro pO cO wO hoO hgO hfO; have T22 := Lib.hid (TnR.putB (H2.out.below (by repeat (first | with_reducible exact Below.refl _ _ | with_reducible refine Below.drew ?_ | with_reducible refine below_alloc ?_ _ | refine below_step (by with_reducible assumption) ?_ (Nat.le_refl _)))) hbW hqW (ownsRow_below HY2.out (show Below w2.heap.size w2 _ from (by repeat (first | with_reducible exact Below.refl _ _ | with_reducible refine Below.drew ?_ | with_reducible refine below_alloc ?_ _ | refine below_step (by with_reducible assumption) ?_ (Nat.le_refl _))))) (fun i hi => ownsRow_below (HZ2.out i hi) (show Below w2.heap.size w2 _ from (by repeat (first | with_reducible exact Below.refl _ _ | with_reducible refine Below.drew ?_ | with_reducible refine below_alloc ?_ _ | refine below_step (by with_reducible assumption) ?_ (Nat.le_refl _))))) (ownsRow_below HU2.out (show Below w2.heap.size w2 _ from (by repeat (first | with_reducible exact Below.refl _ _ | with_reducible refine Below.drew ?_ | with_reducible refine below_alloc ?_ _ | refine below_step (by with_reducible assumption) ?_ (Nat.le_refl _))))) hoO hgO); obtain ⟨hcO, hfz⟩ := grown_cell2 (H2.out.below (by repeat (first | with_reducible exact Below.refl _ _ | with_reducible refine Below.drew ?_ | with_reducible refine below_alloc ?_ _ | refine below_step (by with_reducible assumption) ?_ (Nat.le_refl _)))) (ownsRow_below HY2.out (show Below w2.heap.size w2 _ from (by repeat (first | with_reducible exact Below.refl _ _ | with_reducible refine Below.drew ?_ | with_reducible refine below_alloc ?_ _ | refine below_step (by with_reducible assumption) ?_ (Nat.le_refl _))))) hgO)
                | (go_simp; go_at_call 102; refine (CN.out _ (show Below wr.heap.size wr _ from (by repeat (first | with_reducible exact Below.refl _ _ | with_reducible refine Below.drew ?_ | with_reducible refine below_alloc ?_ _ | refine below_step (by with_reducible assumption) ?_ (Nat.le_refl _))))).mono ?_; rintro e w2 ⟨pu, cu, rfl, hu2, h2⟩; have H2 := Lib.hid ((HST.out.below (show Below wr.heap.size wr _ from (by repeat (first | with_reducible exact Below.refl _ _ | with_reducible refine Below.drew ?_ | with_reducible refine below_alloc ?_ _ | refine below_step (by with_reducible assumption) ?_ (Nat.le_refl _))))).call h2); have HY2 := Lib.hid (ownsRow_type (ownsRow_below HYS.out (show Below wr.heap.size wr _ from (by repeat (first | with_reducible exact Below.refl _ _ | with_reducible refine Below.drew ?_ | with_reducible refine below_alloc ?_ _ | refine below_step (by with_reducible assumption) ?_ (Nat.le_refl _))))) (HST.out.rd.r.below (show Below wr.heap.size wr _ from (by repeat (first | with_reducible exact Below.refl _ _ | with_reducible refine Below.drew ?_ | with_reducible refine below_alloc ?_ _ | refine below_step (by with_reducible assumption) ?_ (Nat.le_refl _))))) (by decide) h2.d); have HZ2 := Lib.hid (fun i (hi : i < ys.length) => ownsRow_type (ownsRow_below (HYI.out i hi) (show Below wr.heap.size wr _ from (by repeat (first | with_reducible exact Below.refl _ _ | with_reducible refine Below.drew ?_ | with_reducible refine below_alloc ?_ _ | refine below_step (by with_reducible assumption) ?_ (Nat.le_refl _))))) (HST.out.rd.r.below (show Below wr.heap.size wr _ from (by repeat (first | with_reducible exact Below.refl _ _ | with_reducible refine Below.drew ?_ | with_reducible refine below_alloc ?_ _ | refine below_step (by with_reducible assumption) ?_ (Nat.le_refl _))))) (by decide) h2.d); have HU2 := Lib.hid (ownsRow_base hu2 (Nat.zero_le _)); obtain ⟨⟨m0, m1, m2, m3⟩, _⟩ := H2.out.cells; have lq2 : q < w2.heap.size := heap_lt H2.out.blk; clear h2 hu2))
              all_goals
                rw [← HLO.out] at T22
                go_wp2
                go_roundw
                case rel => exact ⟨k + 1, by omega, by go_num, _, T22⟩
                case measure => simp [intOf]; omega
            · have hkn : k = As.length := by omega
              subst hkn
              rw [List.take_of_length_le (Nat.le_refl _), ← HLOST.out] at hst
              obtain ⟨hzw, hdw⟩ := HZB.out wr hst.out.rd.d
              have HZW := Lib.hid hzw; have HDW := Lib.hid hdw
              obtain ⟨⟨y0, y1, y2, y3⟩, z0, z1, z2, z3⟩ := four_cells hzw
              have hTI := (hst.out.ty (T := ⟨nm, Es, (List.range As.length).map fun k => ints (PT k), Ws⟩) rfl rfl (by simp) (fun i hi => by simp [List.getD_eq_getElem?_getD, hi]) (by omega) (by omega) (by have := LW.out; have := LA.out; omega) (fun i hi => by rw [HPT.out]; have := (AL.out i hi).1; show (numsF Es (As.getD i [])).length ≤ 1000; unfold numsF; rw [List.length_map]; omega))
              have HTI := Lib.hid hTI
              clear hys hyi hzw hdw hTI g0 g1 g2 g3
              have HSTF := hst
              clear hst
              go_wp2
              change bodyPost _ _ _ _ _ (set4 wr w.heap.size (.string (mkS nm)) (.slice pE Es.length cE) (.slice pB As.length cB) (.slice pW Ws.length cW))
              obtain ⟨WF, hWF⟩ : ∃ WF, WF = set4 wr w.heap.size (.string (mkS nm)) (.slice pE Es.length cE) (.slice pB As.length cB) (.slice pW Ws.length cW) := ⟨_, rfl⟩
              rw [← hWF]
              have hzF := set4_heap (x0 := (.string (mkS nm))) (x1 := (.slice pE Es.length cE)) (x2 := (.slice pB As.length cB)) (x3 := (.slice pW Ws.length cW)) HZW.out
              rw [← hWF] at hzF
              have HWF := Lib.hid hWF
              obtain ⟨⟨v0, v1, v2, v3⟩, _⟩ := four_cells hzF
              clear hWF hzF
              refine bodyPost_ret (v := .agg #[.string (mkS nm), .slice pE Es.length cE, .slice pB As.length cB, .slice pW Ws.length cW]) (by simp [results, Tryd.results60, go_sem, v0, v1, v2, v3]) rfl ⟨.slice pE Es.length cE, .slice pB As.length cB, .slice pW Ws.length cW, ?_, ?_, ?_⟩
              · rw [HTAB.out]; rfl
              · rw [HTAB.out, HWF.out]
                exact HTI.out.set4 HZW.out
              · rw [HLEFT.out, HWF.out]
                have hzb : b ≠ w.heap.size := by have := HBW0.out; omega
                refine ⟨?_, HDW.out.grown (below_set4 (Below.refl _ _) (Nat.le_refl _))⟩
                show (set4 _ _ _ _ _ _).heap[b]? = _
                unfold set4
                rw [Below.heap_setCell _ _ _ _ hzb, Below.heap_setCell _ _ _ _ hzb, Below.heap_setCell _ _ _ _ hzb, Below.heap_setCell _ _ _ _ hzb]
                exact HSTF.out.rd.r
end Go.Proofs.YtfhnigpjmljhbaaDoor.Or
