/- order's shape: what reads a shape. -/
import Derived.Test.YtfhnigpjmljhbaaDoorOrPj
import Derived.Deep.CutRange
import Derived.Deep.RegionLaw
import Derived.Deep.Cut
set_option linter.unusedVariables false
set_option linter.unusedSimpArgs false
namespace Go.Proofs.YtfhnigpjmljhbaaDoor.Or
open Go.RowKit Go.Shelf Go.WideMaps Go.Maps

theorem zeroU8 (w : World) : (zeroValue 5).run Tryd.prog w = .ok (.int .u8 0) w := by kernel_rfl
theorem infoShp : (Tryd.prog.info? 42).map (fun i => (i.zero, i.size, i.bytes)) = some (some (.agg #[.int .u8 0, .string ⟨#[]⟩, .slice none 0 0]), 3, 48) := by kernel_rfl
def set3 (w : World) (b : Nat) (x0 x1 x2 : Value) : World := ((w.setCell ⟨b, 0, none⟩ x0).setCell ⟨b, 1, none⟩ x1).setCell ⟨b, 2, none⟩ x2
theorem set3_heap {w : World} {b : Nat} {c0 c1 c2 x0 x1 x2 : Value} {T : TypeId} {fr : Nat × Nat} (hz : w.heap[b]? = some (.cells #[c0, c1, c2] T fr)) : (set3 w b x0 x1 x2).heap[b]? = some (.cells #[x0, x1, x2] T fr) := by
  unfold set3
  have h1 := setCell_heap (i := 0) (x := x0) hz
  have h2 := setCell_heap (i := 1) (x := x1) h1
  have h3 := setCell_heap (i := 2) (x := x2) h2
  rw [h3]; rfl
theorem set3_other {w : World} {b k : Nat} {x0 x1 x2 : Value} (h : k ≠ b) : (set3 w b x0 x1 x2).heap[k]? = w.heap[k]? := by
  unfold set3
  rw [Below.heap_setCell _ _ _ _ h, Below.heap_setCell _ _ _ _ h, Below.heap_setCell _ _ _ _ h]
theorem below_set3 {n k : Nat} {w X : World} {x0 x1 x2 : Value} (h : Below n w X) (hk : n ≤ k) : Below n w (set3 X k x0 x1 x2) := ((h.setCell hk _).setCell hk _).setCell hk _
theorem set3_size {w : World} {b : Nat} {x0 x1 x2 : Value} : (set3 w b x0 x1 x2).heap.size = w.heap.size := by unfold set3; simp
theorem three_cells {V : World} {k : Nat} {a0 a1 a2 : Value} {T : TypeId} (h : V.heap[k]? = some (.cells #[a0, a1, a2] T (0, 0))) :
    (V.cell? ⟨k, 0, none⟩ = some a0 ∧ V.cell? ⟨k, 1, none⟩ = some a1 ∧ V.cell? ⟨k, 2, none⟩ = some a2) ∧ V.frozen? ⟨k, 0, none⟩ = false ∧ V.frozen? ⟨k, 1, none⟩ = false ∧ V.frozen? ⟨k, 2, none⟩ = false := by
  have y0 := Go.Joins.cell_of_block h 0
  have y1 := Go.Joins.cell_of_block h 1
  have y2 := Go.Joins.cell_of_block h 2
  simp only [List.getElem?_toArray, List.getElem?_cons_zero, List.getElem?_cons_succ] at y0 y1 y2
  exact ⟨⟨y0, y1, y2⟩, Go.Joins.unfrozen_of_block h 0, Go.Joins.unfrozen_of_block h 1, Go.Joins.unfrozen_of_block h 2⟩
theorem cells3 {V : World} {k : Nat} {a0 a1 a2 : Value} {T : TypeId} {fr : Nat × Nat} (h : V.heap[k]? = some (.cells #[a0, a1, a2] T fr)) : ∀ j u, [a0, a1, a2][j]? = some u → V.cell? ⟨k, j, none⟩ = some u := fun j u hj => by
  match j, hj with
  | 0, hj => simp at hj; subst hj; simp [World.cell?, h]
  | 1, hj => simp at hj; subst hj; simp [World.cell?, h]
  | 2, hj => simp at hj; subst hj; simp [World.cell?, h]
theorem ShI.putB {W : World} {b q k f : Nat} {kids : List Shp} {r : List UInt8} {lo : Bool} {vK : Value} {w Y X : World} {s : Shp} {v : Value} {p : Option Addr} {c lw : Nat} {vs : List Value} (h : ShI W b q k f kids r lo vK w) (hbq : b < W.heap.size) (hqW : W.heap.size ≤ q) (h1 : vs.length = kids.length)
    (h2 : w.ownsRow (q + 1) 42 3 vK kids.length (cellsOf kids vs)) (h3 : ∀ i (h : i < kids.length) (h' : i < vs.length), ∃ l h, q + 1 ≤ l ∧ h ≤ w.heap.size ∧ KidR l h f w vs[i] kids[i] ∧ ∀ g, vK.ownBlock = some g → g < l ∨ h ≤ g)
    (hk : KidR lw w.heap.size f w v s) (hl1 : q + 1 ≤ lw) (hl3 : ∀ g, vK.ownBlock = some g → g < lw) (hY : Below w.heap.size w Y)
    (ho : X.ownsRow (q + 1) 42 3 (.slice p (kids.length + 1) c) (kids.length + 1) (cellsOf kids vs ++ [.int .u8 s.k, .string (mkS s.nm), v])) (hg : Y.grownBy X vK.ownBlock) (hf : (Value.slice p (kids.length + 1) c).ownBlock = vK.ownBlock ∨ (Value.slice p (kids.length + 1) c).ownBlock = some Y.heap.size) :
    ShI W b q k f (kids ++ [s]) r lo (.slice p (kids.length + 1) c) (X.setCell ⟨q, 2, none⟩ (.slice p (kids.length + 1) c)) :=
  (h.below hY).put hbq hqW h1 (ownsRow_below h2 hY) (fun i hi hi' => by
    obtain ⟨l, u, g1, g2, g3, g4⟩ := h3 i hi hi'
    exact ⟨l, u, g1, Nat.le_trans g2 hY.size, g3.at (Nat.le_refl _) (Nat.le_refl _) (fun j _ hj => hY.block j (by omega)), g4⟩)
    (hk.at (Nat.le_refl _) (Nat.le_refl _) (fun j _ hj => hY.block j hj)) hl1 hY.size (fun g e => .inl (hl3 g e)) ho hg hf

set_option maxRecDepth 100000 in
set_option maxHeartbeats 16000000 in
theorem shape_any : ∀ (f b mb : Nat) (r : List UInt8) (lo : Bool) (w : World), Rdr b r lo w → r.length < f → r.length ≤ 900 → w.ownsMap Tryd.prog 9 (plainElem (H := Unit) Tryd.prog 5) mb (kdD 8).2 (kdD 8).1 →
    Calls Tryd.prog 66 #[.pointer (some ⟨b, 0, none⟩), .map (some mb)] w fun e w' => ∃ v, e = .returned (shpV (shapeF f r lo).1 v) ∧ KidR w.heap.size w'.heap.size f w' v (shapeF f r lo).1 ∧ RdSt b (shapeF f r lo).2.1 (shapeF f r lo).2.2 w w' := by
  intro f
  induction f with
  | zero => intro b mb r lo w _ h; omega
  | succ f ih =>
    intro b mb r lo w hr hf hs hm
    obtain ⟨iH, hHi, hH0, hH1, hH2⟩ := info_parts infoShp
    have hbw : b < w.heap.size := heap_lt hr
    obtain ⟨z, hz⟩ : ∃ z, z = w.heap.size := ⟨_, rfl⟩
    obtain ⟨W1, hW1⟩ : ∃ W1, W1 = w.alloc (.cells #[.int .u8 0, .string ⟨#[]⟩, .slice none 0 0] 42) := ⟨_, rfl⟩
    have b1 : Below w.heap.size w W1 := by rw [hW1]; exact (Below.refl _ _).alloc (Nat.le_refl _) _
    have hz1 : W1.heap[z]? = some (.cells #[.int .u8 0, .string ⟨#[]⟩, .slice none 0 0] 42 (0, 0)) := by rw [hW1, hz]; exact heap_alloc_at rfl
    have CW := Lib.hid (word_any b r lo W1 (hr.below b1) (by omega))
    have hll := leftF_len r
    have hm1 : W1.ownsMap Tryd.prog 9 (plainElem (H := Unit) Tryd.prog 5) mb (kdD 8).2 (kdD 8).1 := ownsMap_at hm (b1.block mb hm.lt)
    have HR1 := Lib.hid (hr.below b1)
    have HM1 := Lib.hid hm1; have HZ1 := Lib.hid hz1; have HW1 := Lib.hid hW1; have HZ := Lib.hid hz; have HB1 := Lib.hid b1
    have hat := kdD_at (wordF r) 8
    have hkw := @kw_word (wordF r)
    have hll2 := @left_less r
    have hwl := wordF_len r
    have HSF : Hid (shapeF (f + 1) r lo = (if (kwF (wordF r) 8).2 then (if kidN (kwF (wordF r) 8).1 = 0 then (.mk (kwF (wordF r) 8).1 [] [], leftF r, lo)
      else (.mk (kwF (wordF r) 8).1 [] (kidsF (shapeF f) (kidN (kwF (wordF r) 8).1) (leftF r) lo).1, cutF [41] (kidsF (shapeF f) (kidN (kwF (wordF r) 8).1) (leftF r) lo).2.1, (kidsF (shapeF f) (kidN (kwF (wordF r) 8).1) (leftF r) lo).2.2 || !prefB [41] (kidsF (shapeF f) (kidN (kwF (wordF r) 8).1) (leftF r) lo).2.1)) else (.mk 5 (wordF r) [], leftF r, lo))) := rfl
    obtain ⟨x, hx⟩ : ∃ x, x = wordF r := ⟨_, rfl⟩
    obtain ⟨r1, hr1⟩ : ∃ x, x = leftF r := ⟨_, rfl⟩
    obtain ⟨kk, hkk⟩ : ∃ x, x = (kwF (wordF r) 8).1 := ⟨_, rfl⟩
    obtain ⟨y, hy⟩ : ∃ x, x = (kwF (wordF r) 8).2 := ⟨_, rfl⟩
    rw [← hr1, ← hkk, ← hy, ← hx] at HSF
    rw [← hx, ← hr1] at CW
    rw [← hkk, ← hy, ← hx] at hat
    rw [← hx] at hkw hll2 hwl
    rw [← hr1] at hll hll2
    rw [hx, ← hkk, ← hy, ← hx] at hkw
    have HKEY := Lib.hid (key_mk x (by omega))
    have HAT := Lib.hid hat; have HKW := Lib.hid hkw; have HLL2 := Lib.hid hll2
    have HIH := Lib.hid ih
    have HWL : Hid (x.length ≤ 900) := by show _ ≤ _; omega
    have HF := Lib.hid hf; have HS := Lib.hid hs; have HLL := Lib.hid hll
    clear hr hz hW1 b1 hz1 hm hm1 hx hr1 hkk hy hat hkw hll2 hwl hll hf hs ih
    go_enter Tryd.func66, Tryd.ntmps66
    go_wp2_with fail
    rw [← HW1.out, ← HZ.out]
    refine CW.out.mono ?_
    rintro e w2 ⟨rfl, h2⟩
    have hbz : z ≠ b := by have := HZ.out; omega
    have lz1 : z < W1.heap.size := heap_lt HZ1.out
    have HZ2 : Hid (w2.heap[z]? = some (.cells #[.int .u8 0, .string ⟨#[]⟩, .slice none 0 0] 42 (0, 0))) := (h2.d.block z lz1 (fun e => hbz e)).trans HZ1.out
    have HM2 : Hid (w2.ownsMap Tryd.prog 9 (plainElem (H := Unit) Tryd.prog 5) mb (kdD 8).2 (kdD 8).1) := ownsMap_at HM1.out (h2.d.block mb HM1.out.lt (map_ne HM1.out HR1.out))
    have HR2 := Lib.hid h2.r
    have HD2 : Hid (Diff (fun k => k = b) w w2) := (Below.diff HB1.out _).trans h2.d
    have HBZ := Lib.hid hbz
    clear h2 lz1 hbz CW
    cases y with
    | false =>
      have HSF2 : Hid (shapeF (f + 1) r lo = (.mk 5 x [], r1, lo)) := HSF.out
      obtain ⟨⟨y0, y1, y2⟩, g0, g1, g2⟩ := three_cells HZ2.out
      go_wp2_with (first
        | (at_lookup; refine wpList_lookup_num _ rfl _ _ 96 rfl 9 5 .u8 klaw Tryd.underlying96 Tryd.underlying5 (zeroU8 _) mb _ _ rfl HM2.out _ _ rfl HKEY.out (kk : Int) false HAT.out.1 HAT.out.2 ?_)
        | go_in)
      change bodyPost _ _ _ _ _ (set3 w2 z (.int .u8 5) (.string (mkS x)) (.slice none 0 0))
      obtain ⟨WF, hWF⟩ : ∃ WF, WF = set3 w2 z (.int .u8 5) (.string (mkS x)) (.slice none 0 0) := ⟨_, rfl⟩
      rw [← hWF]
      have hzF := set3_heap (x0 := .int .u8 5) (x1 := .string (mkS x)) (x2 := .slice none 0 0) HZ2.out
      rw [← hWF] at hzF
      have HWF := Lib.hid hWF
      obtain ⟨⟨v0, v1, v2⟩, _⟩ := three_cells hzF
      clear hWF hzF
      refine bodyPost_ret (v := .agg #[.int .u8 5, .string (mkS x), .slice none 0 0]) (by simp [results, Tryd.results66, go_sem, v0, v1, v2]) rfl ⟨.slice none 0 0, ?_, ?_, ?_⟩
      · rw [HSF2.out]; rfl
      · rw [HSF2.out]
        exact ⟨⟨by show 5 < 256; omega, by show x.length ≤ _; have := HWL.out; omega⟩, none, 0, rfl, ⟨Nat.zero_le _, Nat.zero_le _⟩, .inl rfl⟩
      · rw [HSF2.out, HWF.out]
        exact ⟨(set3_other (fun e => HBZ.out e.symm)).trans HR2.out, HD2.out.grown (below_set3 (Below.refl _ _) (by have := HZ.out; omega))⟩
    | true =>
      have hkw8 := (HKW.out rfl).2
      have hlf : r1.length < f := by have := HLL2.out (HKW.out rfl).1; have := HF.out; omega
      have hl9 : r1.length ≤ 900 := by have := HLL.out; have := HS.out; omega
      obtain ⟨q, hq⟩ : ∃ q, q = w2.heap.size := ⟨_, rfl⟩
      obtain ⟨W3, hW3⟩ : ∃ W3, W3 = w2.alloc (.cells #[.int .u8 kk, .string ⟨#[]⟩, .slice none 0 0] 42) := ⟨_, rfl⟩
      have b3 : Below w2.heap.size w2 W3 := by rw [hW3]; exact (Below.refl _ _).alloc (Nat.le_refl _) _
      have hq3 : W3.heap[q]? = some (.cells #[.int .u8 kk, .string ⟨#[]⟩, .slice none 0 0] 42 (0, 0)) := by rw [hW3, hq]; exact heap_alloc_at rfl
      have hbw2 : b < w2.heap.size := heap_lt HR2.out
      have hqW : w2.heap.size ≤ q := by omega
      have I0 : Hid (ShI w2 b q kk f (kidsF (shapeF f) 0 r1 lo).1 (kidsF (shapeF f) 0 r1 lo).2.1 (kidsF (shapeF f) 0 r1 lo).2.2 (.slice none 0 0) W3) :=
        ⟨⟨HR2.out.below b3, Below.diff b3 _⟩, hq3, [], rfl, ⟨rfl, .inl ⟨rfl, rfl⟩⟩, fun i h => by simp [kidsF] at h⟩
      have HW3 := Lib.hid hW3; have HQ := Lib.hid hq
      have CK := Lib.hid (kidCount_any kk W3 (by omega))
      obtain ⟨n, hn⟩ : ∃ x, x = kidN kk := ⟨_, rfl⟩
      have hn2 : n ≤ 2 := by rw [hn]; unfold kidN; split; omega; split <;> omega
      rw [← hn] at CK HSF
      have HSF2 : Hid (shapeF (f + 1) r lo = (if n = 0 then (.mk kk [] [], r1, lo) else (.mk kk [] (kidsF (shapeF f) n r1 lo).1, cutF [41] (kidsF (shapeF f) n r1 lo).2.1, (kidsF (shapeF f) n r1 lo).2.2 || !prefB [41] (kidsF (shapeF f) n r1 lo).2.1))) := HSF.out
      have HN := Lib.hid hn
      have HKW8 := Lib.hid hkw8; have HLF := Lib.hid hlf; have HL9 := Lib.hid hl9; have HBW2 := Lib.hid hbw2; have HQW := Lib.hid hqW
      have HZW : Hid (∀ V, Diff (fun k => k = b) w2 V → V.heap[z]? = some (.cells #[.int .u8 0, .string ⟨#[]⟩, .slice none 0 0] 42 (0, 0)) ∧ Diff (fun k => k = b) w V) := fun V h => ⟨(h.block z (heap_lt HZ2.out) (fun e => HBZ.out e)).trans HZ2.out, HD2.out.trans h⟩
      have HM0 : Hid (∀ V, Diff (fun k => k = b) w2 V → V.ownsMap Tryd.prog 9 (plainElem (H := Unit) Tryd.prog 5) mb (kdD 8).2 (kdD 8).1) := fun V h => ownsMap_at HM2.out (h.block mb HM2.out.lt (map_ne HM2.out HR2.out))
      clear hkw8 hlf hl9 hq hW3 b3 hq3 hn HSF hbw2 hqW
      go_wp2_with (first
        | (at_lookup; refine wpList_lookup_num _ rfl _ _ 96 rfl 9 5 .u8 klaw Tryd.underlying96 Tryd.underlying5 (zeroU8 _) mb _ _ rfl HM2.out _ _ rfl HKEY.out (kk : Int) true HAT.out.1 HAT.out.2 ?_)
        | fail)
      rw [← HW3.out, ← HQ.out]
      refine CK.out.mono ?_
      rintro e w4 ⟨rfl, rfl⟩
      go_wp2_with fail
      go_loopw [9, 26] (fun bf i wx => ∃ j : Nat, j ≤ n ∧ i = .int .i64 j ∧ bf = .string (mkS (if j = 0 then [40] else [44, 32])) ∧ ∃ vK, Hid (ShI w2 b q kk f (kidsF (shapeF f) j r1 lo).1 (kidsF (shapeF f) j r1 lo).2.1 (kidsF (shapeF f) j r1 lo).2.2 vK wx)) (fun _ i _ => n - (intOf i).toNat)
      case atStart => exact ⟨0, Nat.zero_le _, rfl, rfl, _, I0⟩
      case round =>
        clear I0 CK
        obtain ⟨j, hj, rfl, rfl, vK, hst⟩ := hrel
        have hkl := kidsF_len (shapeF_len f) j r1 lo
        obtain ⟨kids, hkids⟩ : ∃ x, x = (kidsF (shapeF f) j r1 lo).1 := ⟨_, rfl⟩
        obtain ⟨rj, hrj⟩ : ∃ x, x = (kidsF (shapeF f) j r1 lo).2.1 := ⟨_, rfl⟩
        obtain ⟨loj, hloj⟩ : ∃ x, x = (kidsF (shapeF f) j r1 lo).2.2 := ⟨_, rfl⟩
        rw [← hkids, ← hrj, ← hloj] at hst
        rw [← hkids, ← hrj] at hkl
        obtain ⟨vs0, _, hrow0, _⟩ := hst.out.row
        obtain ⟨pK, cK, rfl⟩ := ownsRow_slice hrow0
        obtain ⟨⟨k0, k1, k2⟩, g0, g1, g2⟩ := three_cells hst.out.blk
        have lq : q < wr.heap.size := heap_lt hst.out.blk
        by_cases hlt : j < n
        · obtain ⟨sep, hsep⟩ : ∃ x : List UInt8, x = (if j = 0 then [40] else [44, 32]) := ⟨_, rfl⟩
          have hstep : (kidsF (shapeF f) (j + 1) r1 lo) = (kids ++ [(shapeF f (cutF sep rj) (loj || !prefB sep rj)).1], (shapeF f (cutF sep rj) (loj || !prefB sep rj)).2) := by
            rw [hkids, hrj, hloj, hsep]; rfl
          have hcl := cutF_len sep rj
          have CR := Lib.hid (read_any b rj sep loj wr hst.out.rd.r)
          obtain ⟨rk, hrk⟩ : ∃ x, x = cutF sep rj := ⟨_, rfl⟩
          obtain ⟨lok, hlok⟩ : ∃ x, x = (loj || !prefB sep rj) := ⟨_, rfl⟩
          rw [← hrk, ← hlok] at CR hstep
          rw [← hrk] at hcl
          rw [← hsep]
          have HSTEP := Lib.hid hstep
          have HRL : Hid (rk.length < f ∧ rk.length ≤ 900) := by have := HLF.out; have := HL9.out; exact ⟨by omega, by omega⟩
          have HKL : Hid (kids.length = j) := hkl.2
          have HST := hst
          have hbq : b < q := by have := HBW2.out; have := HQW.out; omega
          have HBQ := Lib.hid hbq
          clear hst hkids hrj hloj hkl hrow0 hsep hstep hcl hrk hlok k0 k1 k2 g0 g1 g2 lq hbq
          go_wp2_with fail
          refine CR.out.mono ?_
          rintro e wA ⟨rfl, hA⟩
          have HA := Lib.hid (HST.out.call HBQ.out hA)
          obtain ⟨sh, hsh⟩ : ∃ x, x = (shapeF f rk lok).1 := ⟨_, rfl⟩
          obtain ⟨rn, hrn⟩ : ∃ x, x = (shapeF f rk lok).2.1 := ⟨_, rfl⟩
          obtain ⟨lon, hlon⟩ : ∃ x, x = (shapeF f rk lok).2.2 := ⟨_, rfl⟩
          have CS : Hid (∀ V, Below wA.heap.size wA V → Calls Tryd.prog 66 #[.pointer (some ⟨b, 0, none⟩), .map (some mb)] V fun e w' => ∃ vq cq, e = .returned (.agg #[.int .u8 sh.k, .string (mkS sh.nm), .slice vq sh.n cq]) ∧ KidR V.heap.size w'.heap.size f w' (.slice vq sh.n cq) sh ∧ RdSt b rn lon V w' ∧ q + 1 ≤ V.heap.size ∧ ∀ g, (Value.slice pK kids.length cK).ownBlock = some g → g < V.heap.size) := fun V h => by
            have hV := HA.out.rd.below h
            refine (HIH.out b mb rk lok V hV.r HRL.out.1 HRL.out.2 (HM0.out V hV.d)).mono ?_
            rintro e w' ⟨v, rfl, h1, h2⟩
            rw [← hsh] at h1 ⊢
            rw [← hrn, ← hlon] at h2
            obtain ⟨vq, cq, rfl⟩ := h1.form
            refine ⟨vq, cq, rfl, h1, h2, by have := h.size; have := heap_lt HA.out.blk; omega, fun g e => ?_⟩
            obtain ⟨_, _, hrow, _⟩ := HA.out.row
            have := (hrow.lt g e).2; have := h.size; omega
          have HSN : Hid (kidsF (shapeF f) (j + 1) r1 lo = (kids ++ [sh], rn, lon)) := by show _ = _; rw [HSTEP.out, hsh, hrn, hlon]
          obtain ⟨⟨k0, k1, k2⟩, g0, g1, g2⟩ := three_cells HA.out.blk
          have lq : q < wA.heap.size := heap_lt HA.out.blk
          clear hA hsh hrn hlon CR
          go_upto_region 10 with fail
          go_cut [] from 31 to 38 (fun wx => ∃ p c, Hid (ShI w2 b q kk f (kids ++ [sh]) rn lon (.slice p (kids.length + 1) c) wx))
          case first =>
            go_region_law (first
              | (go_simp; go_at_call 66; refine (CS.out _ (show Below wA.heap.size wA _ from (by repeat (first | with_reducible exact Below.refl _ _ | with_reducible refine Below.drew ?_ | with_reducible refine below_alloc ?_ _ | refine below_step (by with_reducible assumption) ?_ (Nat.le_refl _))))).mono ?_; rintro e w5 ⟨vq, cq, rfl, hk2, h2, hq2, hg2⟩; have H2 := Lib.hid ((HA.out.below (show Below wA.heap.size wA _ from (by repeat (first | with_reducible exact Below.refl _ _ | with_reducible refine Below.drew ?_ | with_reducible refine below_alloc ?_ _ | refine below_step (by with_reducible assumption) ?_ (Nat.le_refl _))))).call HBQ.out h2); obtain ⟨vs, hv1, hv2, hv3⟩ := H2.out.row; have HV1 := Lib.hid hv1; have HV2 := Lib.hid hv2; have HV3 := Lib.hid hv3; have HK2 := Lib.hid hk2; have HQ2 := Lib.hid hq2; have HG2 := Lib.hid hg2; obtain ⟨⟨m0, m1, m2⟩, _⟩ := three_cells H2.out.blk; have lq2 : q < w5.heap.size := heap_lt H2.out.blk; clear h2 hk2 hv1 hv2 hv3 hq2 hg2)
              | (with_reducible refine only_app 40 ?_; refine step_append_el rfl _ _ 40 42 rfl iH _ 3 48 Tryd.underlying40 hHi hH0 hH1 hH2 rfl (by decide) (by decide) (q + 1) (.slice pK kids.length cK) kids.length (cellsOf kids vs) rfl (ownsRow_below HV2.out (show Below w5.heap.size w5 _ from (by repeat (first | with_reducible exact Below.refl _ _ | with_reducible refine Below.drew ?_ | with_reducible refine below_alloc ?_ _ | refine below_step (by with_reducible assumption) ?_ (Nat.le_refl _))))) _ [.int .u8 sh.k, .string (mkS sh.nm), .slice vq sh.n cq] rfl rfl (cells3 (by repeat (first | with_reducible refine heap_drew ?_ | with_reducible exact heap_alloc_at (by simp only [alloc_size, drew_size]) | with_reducible refine heap_alloc_old ?_))) (by simp [Value.oneCell']) (by have := HKL.out; omega) (by simp only [alloc_size, drew_size]; omega) ?_; intro pO cO wO hoO hgO hfO; have T10 := Lib.hid (ShI.putB H2.out HBW2.out HQW.out HV1.out HV2.out HV3.out HK2.out HQ2.out HG2.out (by repeat (first | with_reducible exact Below.refl _ _ | with_reducible refine Below.drew ?_ | with_reducible refine below_alloc ?_ _ | refine below_step (by with_reducible assumption) ?_ (Nat.le_refl _))) hoO hgO hfO); have hqO : wO.heap[q]? = some (.cells #[.int .u8 kk, .string ⟨#[]⟩, .slice pK kids.length cK] 42 (0, 0)) := (hgO.block q (by simp only [alloc_size, drew_size]; omega) (fun e => by have := (HV2.out.lt q e.symm).1; omega)).trans (heap_below (show Below w5.heap.size w5 _ from (by repeat (first | with_reducible exact Below.refl _ _ | with_reducible refine Below.drew ?_ | with_reducible refine below_alloc ?_ _ | refine below_step (by with_reducible assumption) ?_ (Nat.le_refl _)))) H2.out.blk); have hcO : wO.cell? ⟨q, 2, none⟩ = some (.slice pK kids.length cK) := (three_cells hqO).1.2.2; have hfz : wO.frozen? ⟨q, 2, none⟩ = false := (three_cells hqO).2.2.2; clear hqO))
            all_goals
              go_wp2_with fail
              go_meet
              exact ⟨_, _, T10⟩
          case rest =>
            obtain ⟨pn, cn, hT⟩ := hcut
            have hT2 : Hid (ShI w2 b q kk f (kidsF (shapeF f) (j + 1) r1 lo).1 (kidsF (shapeF f) (j + 1) r1 lo).2.1 (kidsF (shapeF f) (j + 1) r1 lo).2.2 (.slice pn (kids.length + 1) cn) wc) := by rw [HSN.out]; exact hT
            clear k0 k1 k2 g0 g1 g2 lq CS HA HST hT
            go_wp2
            go_roundw
            case rel => exact ⟨j + 1, by omega, by go_num, by rw [if_neg (by omega)]; rfl, _, hT2⟩
            case measure => simp [intOf]; omega
        · have hjn : j = n := by omega
          subst hjn
          obtain ⟨sep, hsep⟩ : ∃ x : List UInt8, x = (if j = 0 then [40] else [44, 32]) := ⟨_, rfl⟩
          rw [← hsep]
          clear hsep
          have HKL : Hid (kids.length = j) := hkl.2
          have HZQ : Hid (z < q) := by show _ < _; have := heap_lt HZ2.out; have := HQW.out; omega
          have hbq : b < q := by have := HBW2.out; have := HQW.out; omega
          have HBQ := Lib.hid hbq
          have HST := hst
          by_cases hj0 : j = 0
          · have HRES : Hid (shapeF (f + 1) r lo = (.mk kk [] kids, rj, loj)) := by
              show _ = _
              rw [HSF2.out, if_pos hj0, hkids, hrj, hloj, hj0]; rfl
            have hk0 : ¬ 0 < kids.length := by have := HKL.out; omega
            have hk1 : ¬ (0 : Int) < (kids.length : Int) := by omega
            have HZV := Lib.hid (HZW.out wr hst.out.rd.d)
            obtain ⟨⟨y0, y1, y2⟩, z0, z1, z2⟩ := three_cells HZV.out.1
            clear hst hkids hrj hloj hkl hrow0 hj0 hbq g0 g1 g2
            go_wp2
            change bodyPost _ _ _ _ _ (set3 wr z (.int .u8 kk) (.string ⟨#[]⟩) (.slice pK kids.length cK))
            obtain ⟨WF, hWF⟩ : ∃ WF, WF = set3 wr z (.int .u8 kk) (.string ⟨#[]⟩) (.slice pK kids.length cK) := ⟨_, rfl⟩
            rw [← hWF]
            have hzF := set3_heap (x0 := .int .u8 kk) (x1 := .string ⟨#[]⟩) (x2 := .slice pK kids.length cK) HZV.out.1
            rw [← hWF] at hzF
            have HWF := Lib.hid hWF
            obtain ⟨⟨v0, v1, v2⟩, _⟩ := three_cells hzF
            clear hWF hzF
            refine bodyPost_ret (v := .agg #[.int .u8 kk, .string ⟨#[]⟩, .slice pK kids.length cK]) (by simp [results, Tryd.results66, go_sem, v0, v1, v2]) rfl ⟨.slice pK kids.length cK, ?_, ?_, ?_⟩
            · rw [HRES.out]; rfl
            · rw [HRES.out, HWF.out, set3_size]
              have hd := (HST.out).done (nm := []) (l0 := z + 1) (by have := HKW8.out; omega) (by have := HKL.out; omega) HQW.out (by have := HZQ.out; omega)
              exact hd.at (by have := HZ.out; omega) (Nat.le_refl _) (fun i h1 h2 => set3_other (by omega))
            · rw [HRES.out, HWF.out]
              exact ⟨(set3_other (fun e => HBZ.out e.symm)).trans (HST.out).rd.r, HZV.out.2.grown (below_set3 (Below.refl _ _) (by have := HZ.out; omega))⟩
          · have HRES : Hid (shapeF (f + 1) r lo = (.mk kk [] kids, cutF [41] rj, loj || !prefB [41] rj)) := by
              show _ = _
              rw [HSF2.out, if_neg hj0, hkids, hrj, hloj]
            have hk0 : 0 < kids.length := by have := HKL.out; omega
            have hk1 : (0 : Int) < (kids.length : Int) := by omega
            have CR := Lib.hid (read_any b rj [41] loj wr hst.out.rd.r)
            obtain ⟨rk, hrk⟩ : ∃ x, x = cutF [41] rj := ⟨_, rfl⟩
            obtain ⟨lok, hlok⟩ : ∃ x, x = (loj || !prefB [41] rj) := ⟨_, rfl⟩
            rw [← hrk, ← hlok] at CR HRES
            clear hst hkids hrj hloj hkl hrow0 hj0 hbq g0 g1 g2 hrk hlok
            go_wp2_with fail
            refine CR.out.mono ?_
            rintro e wA ⟨rfl, hA⟩
            have HA := Lib.hid (HST.out.call HBQ.out hA)
            have HZV := Lib.hid (HZW.out wA HA.out.rd.d)
            obtain ⟨⟨y0, y1, y2⟩, z0, z1, z2⟩ := three_cells HZV.out.1
            clear k0 k1 k2 lq
            obtain ⟨⟨k0, k1, k2⟩, _⟩ := three_cells HA.out.blk
            have lq : q < wA.heap.size := heap_lt HA.out.blk
            clear hA CR
            go_wp2
            change bodyPost _ _ _ _ _ (set3 wA z (.int .u8 kk) (.string ⟨#[]⟩) (.slice pK kids.length cK))
            obtain ⟨WF, hWF⟩ : ∃ WF, WF = set3 wA z (.int .u8 kk) (.string ⟨#[]⟩) (.slice pK kids.length cK) := ⟨_, rfl⟩
            rw [← hWF]
            have hzF := set3_heap (x0 := .int .u8 kk) (x1 := .string ⟨#[]⟩) (x2 := .slice pK kids.length cK) HZV.out.1
            rw [← hWF] at hzF
            have HWF := Lib.hid hWF
            obtain ⟨⟨v0, v1, v2⟩, _⟩ := three_cells hzF
            clear hWF hzF
            refine bodyPost_ret (v := .agg #[.int .u8 kk, .string ⟨#[]⟩, .slice pK kids.length cK]) (by simp [results, Tryd.results66, go_sem, v0, v1, v2]) rfl ⟨.slice pK kids.length cK, ?_, ?_, ?_⟩
            · rw [HRES.out]; rfl
            · rw [HRES.out, HWF.out, set3_size]
              have hd := (HA.out).done (nm := []) (l0 := z + 1) (by have := HKW8.out; omega) (by have := HKL.out; omega) HQW.out (by have := HZQ.out; omega)
              exact hd.at (by have := HZ.out; omega) (Nat.le_refl _) (fun i h1 h2 => set3_other (by omega))
            · rw [HRES.out, HWF.out]
              exact ⟨(set3_other (fun e => HBZ.out e.symm)).trans (HA.out).rd.r, HZV.out.2.grown (below_set3 (Below.refl _ _) (by have := HZ.out; omega))⟩
end Go.Proofs.YtfhnigpjmljhbaaDoor.Or
