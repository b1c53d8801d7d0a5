/- OrderNames. -/
import Derived.Test.YtfhnigpjmljhbaaDoorOrPo
import Derived.Test.YtfhnigpjmljhbaaDoorOrLb
import Derived.Test.YtfhnigpjmljhbaaDoorOrDe
set_option linter.unusedVariables false
set_option linter.unusedSimpArgs false
namespace Go.Proofs.YtfhnigpjmljhbaaDoor.Or
open Go.RowKit Go.Shelf

theorem set4_other {w : World} {b k : Nat} {x0 x1 x2 x3 : Value} (h : k ≠ b) : (set4 w b x0 x1 x2 x3).heap[k]? = w.heap[k]? := by
  unfold set4
  rw [Below.heap_setCell _ _ _ _ h, Below.heap_setCell _ _ _ _ h, Below.heap_setCell _ _ _ _ h, Below.heap_setCell _ _ _ _ h]
theorem parse_at (s : List UInt8) (T : Tab) (n1 n2 n3 : Nat) (w : World) (hs : s.length ≤ 900) (hL : LaidOk w) (h : parF s = T ∧ parE s = 0) (l1 : T.elems.length = n1) (l2 : T.above.length = n2) (l3 : T.wrong.length = n3) :
    Calls Tryd.prog 24 #[.string (mkS s)] w fun e w' => ∃ p1 c1 p2 c2 p3 c3, e = .returned (.tuple #[.agg #[.string (mkS T.name), .slice p1 n1 c1, .slice p2 n2 c2, .slice p3 n3 c3], .int .i64 0]) ∧ TyT w' (.slice p1 n1 c1) (.slice p2 n2 c2) (.slice p3 n3 c3) T ∧ Below w.heap.size w w' := by
  subst l1 l2 l3
  refine (parse_any s w hs hL).mono ?_
  rintro e w' ⟨xe, xa, xw, rfl, hT, hb⟩
  rw [h.1] at hT
  obtain ⟨p1, c1, rfl⟩ := hT.tab.e.form
  obtain ⟨p2, c2, rfl⟩ := hT.tab.a.form
  obtain ⟨p3, c3, rfl⟩ := hT.tab.w.form
  exact ⟨p1, c1, p2, c2, p3, c3, by rw [h.1, h.2]; rfl, hT, hb⟩
set_option maxRecDepth 100000 in
set_option maxHeartbeats 4000000 in
theorem checkShape_many (n : Nat) (p : Option Addr) (c : Nat) (k : Nat) (nm : ByteArray) (u : Value) (w : World) (h8 : 8 < n) (hu : ∃ q m d, u = .slice q m d) :
    Calls Tryd.prog 19 #[.slice p n c, .agg #[.int .u8 k, .string nm, u]] w fun e w' => e = .returned (.int .i64 5) ∧ Below w.heap.size w w' := by
  have g8 : (8 : Int) < (n : Int) := by omega
  obtain ⟨q, m, d, rfl⟩ := hu
  clear h8
  go_enter Tryd.func19, Tryd.ntmps19
  go_wp2_with fail
  go_ret
  exact ⟨rfl, (Below.refl _ _).alloc (Nat.le_refl _) _⟩

theorem tabs_two {W : World} {k : Nat} {T U : Tab} {fr : Nat × Nat} {p1 p2 p3 q1 q2 q3 : Option Addr} {c1 c2 c3 d1 d2 d3 : Nat} {ty : TypeId}
    (h : W.heap[k]? = some (.cells #[.string (mkS T.name), .slice p1 T.elems.length c1, .slice p2 T.above.length c2, .slice p3 T.wrong.length c3, .string (mkS U.name), .slice q1 U.elems.length d1, .slice q2 U.above.length d2, .slice q3 U.wrong.length d3] ty fr))
    (hT : TabIn W (.slice p1 T.elems.length c1) (.slice p2 T.above.length c2) (.slice p3 T.wrong.length c3) T) (hU : TabIn W (.slice q1 U.elems.length d1) (.slice q2 U.above.length d2) (.slice q3 U.wrong.length d3) U) : TabsIn W (.slice (some ⟨k, 0, none⟩) 2 2) [T, U] := by
  refine ⟨_, 2, rfl, ⟨by simp, by simp⟩, .inr ⟨k, 0, rfl, fun i hi => ?_⟩⟩
  match i, hi with
  | 0, _ => exact ⟨p1, c1, p2, c2, p3, c3, by simp [World.cell?, h], hT⟩
  | 1, _ => exact ⟨q1, d1, q2, d2, q3, d3, by simp [World.cell?, h], hU⟩
theorem tabs_one {W : World} {k : Nat} {T : Tab} {fr : Nat × Nat} {p1 p2 p3 : Option Addr} {c1 c2 c3 : Nat} {ty : TypeId}
    (h : W.heap[k]? = some (.cells #[.string (mkS T.name), .slice p1 T.elems.length c1, .slice p2 T.above.length c2, .slice p3 T.wrong.length c3] ty fr))
    (hT : TabIn W (.slice p1 T.elems.length c1) (.slice p2 T.above.length c2) (.slice p3 T.wrong.length c3) T) : TabsIn W (.slice (some ⟨k, 0, none⟩) 1 1) [T] := by
  refine ⟨_, 1, rfl, ⟨by simp, by simp⟩, .inr ⟨k, 0, rfl, fun i hi => ?_⟩⟩
  match i, hi with
  | 0, _ => exact ⟨p1, c1, p2, c2, p3, c3, by simp [World.cell?, h], hT⟩
theorem frm_sm (ts : List Tab) (h : ts.all (fun t => decide (t.name.length ≤ 100) && t.elems.all fun x => decide (x.length ≤ 100)) = true) : ∀ t ∈ ts, Small t := fun t ht => by
  have := List.all_eq_true.1 h t ht
  simp only [Bool.and_eq_true, decide_eq_true_eq, List.all_eq_true] at this
  exact ⟨by omega, fun x hx => by have := this.2 x hx; omega⟩
theorem infoTab : (Tryd.prog.info? 26).map (fun i => (i.zero, i.size, i.bytes)) = some (some (.agg #[.string ⟨#[]⟩, .slice none 0 0, .slice none 0 0, .slice none 0 0]), 4, 88) := by kernel_rfl
theorem make_nine : ∃ Z : Array Value, ∀ W, (Instr.makeSlice 39 (.int .i64 9) (.int .i64 9)).run Tryd.prog W = .ok (.slice (some ⟨W.heap.size, 0, none⟩) 9 9) (W.alloc (.cells Z 26)) := by
  obtain ⟨i0, hi, hz0, hz1, hz2⟩ := info_parts infoTab
  exact ⟨madeCells (Value.cells (.agg #[.string ⟨#[]⟩, .slice none 0 0, .slice none 0 0, .slice none 0 0])) ((9 : Int).toNat * i0.size), fun W => run_makeSlice W 39 26 i0 _ Tryd.underlying39 hi hz0 .i64 .i64 9 9 (by omega) (by omega) (by rw [hz1]; decide) (by rw [hz2]; decide) (by omega)⟩
theorem kid_none (w : World) (k : Nat) (nm : List UInt8) (hk : k < 256) (hn : nm.length ≤ 1000000) : KidIn 1 w (.slice none 0 0) (.mk k nm []) := ⟨⟨hk, hn⟩, none, 0, rfl, ⟨Nat.zero_le _, Nat.zero_le _⟩, .inl rfl⟩
theorem tab_at (T : Tab) (F : Nat) (w : World) (n1 n2 n3 : Nat) (l1 : T.elems.length = n1) (l2 : T.above.length = n2) (l3 : T.wrong.length = n3)
    (h : Calls Tryd.prog F #[] w fun e w' => ∃ ve va vw, e = .returned (tabV T ve va vw) ∧ TabIn w' ve va vw T ∧ Below w.heap.size w w') :
    Calls Tryd.prog F #[] w fun e w' => ∃ p1 c1 p2 c2 p3 c3, e = .returned (.agg #[.string (mkS T.name), .slice p1 n1 c1, .slice p2 n2 c2, .slice p3 n3 c3]) ∧ TabIn w' (.slice p1 n1 c1) (.slice p2 n2 c2) (.slice p3 n3 c3) T ∧ Below w.heap.size w w' := by
  subst l1 l2 l3
  refine h.mono ?_
  rintro e w' ⟨ve, va, vw, rfl, hT, hb⟩
  obtain ⟨p1, c1, rfl⟩ := hT.e.form
  obtain ⟨p2, c2, rfl⟩ := hT.a.form
  obtain ⟨p3, c3, rfl⟩ := hT.w.form
  exact ⟨p1, c1, p2, c2, p3, c3, rfl, hT, hb⟩
set_option maxRecDepth 100000 in
set_option maxHeartbeats 16000000 in
theorem names_any (HJ : JoinOk) (w : World) (hLd : LaidOk w) :
    Calls Tryd.prog 5 #[] w fun e w' => e = .returned (.bool true) ∧ Below w.heap.size w w' := by
  have HL : Hid (∀ V, Below w.heap.size w V → LaidOk V) := fun V h => hLd.below h
  have CA : Hid (∀ W, Below w.heap.size w W → Calls Tryd.prog 9 #[] W fun e w' => e = .returned (.bool true) ∧ Below W.heap.size W w') := fun W h => awake_any HJ W (hLd.below h)
  have P1 : Hid (∀ W, Below w.heap.size w W → _) := fun W h => parse_at nmS1 nmT1 4 4 4 W (by decide) (hLd.below h) nm1 rfl rfl rfl
  have P2 : Hid (∀ W, Below w.heap.size w W → _) := fun W h => parse_at nmS2 nmT2 2 2 2 W (by decide) (hLd.below h) nm2 rfl rfl rfl
  have P3 : Hid (∀ W, Below w.heap.size w W → _) := fun W h => parse_at nmS3 nmT3 3 3 3 W (by decide) (hLd.below h) nm3 rfl rfl rfl
  have P4 : Hid (∀ W, Below w.heap.size w W → _) := fun W h => parse_at nmS4 nmT4 3 3 3 W (by decide) (hLd.below h) nm4 rfl rfl rfl
  have HB0 : Hid (Below w.heap.size w w) := Below.refl _ _
  clear hLd
  go_enter Tryd.func5, Tryd.ntmps5
  go_wp2_with fail
  refine (P1.out w HB0.out).mono ?_
  rintro e w1 ⟨p1, c1, p2, c2, p3, c3, rfl, hT, hb⟩
  have HB_w1 : Hid (Below w.heap.size w w1) := HB0.out.trans hb
  obtain ⟨l, hl⟩ : ∃ q, q = w1.heap.size := ⟨_, rfl⟩
  obtain ⟨W1, hW1⟩ : ∃ W, W = w1.alloc (.cells #[.string (mkS nmT1.name), .slice p1 4 c1, .slice p2 4 c2, .slice p3 4 c3] 26) := ⟨_, rfl⟩
  have bW1 : Below w1.heap.size w1 W1 := by rw [hW1]; exact (Below.refl _ _).alloc (Nat.le_refl _) _
  have nl : W1.heap[l]? = some (.cells #[.string (mkS nmT1.name), .slice p1 4 c1, .slice p2 4 c2, .slice p3 4 c3] 26 (0, 0)) := by rw [hW1, hl]; exact heap_alloc_at rfl
  have HB_W1 := Lib.hid (HB_w1.out.trans (bW1.mono HB_w1.out.size))
  have Hl_W1 := Lib.hid nl
  have HW_W1 := Lib.hid hW1; have HQ_l := Lib.hid hl
  have T_W1 := Lib.hid (hT.below bW1)
  clear hT hb hl hW1 bW1 nl P1
  go_upto_region 2 with fail
  rw [← HW_W1.out, ← HQ_l.out]
  have HLQ : Hid (w.heap.size ≤ l) := by show _ ≤ _; have := HQ_l.out; have := HB_w1.out.size; omega
  obtain ⟨⟨k0, k1, k2, k3⟩, _⟩ := four_cells Hl_W1.out
  have CP := Lib.hid (prove_any nmT1 _ _ _ W1 T_W1.out.tab (frm_small (by kernel_rfl)) (HL.out _ HB_W1.out))
  rw [nmP1.1, nmP1.2] at CP
  unfold tabV brkV at CP
  go_wp2_with fail
  refine CP.out.mono ?_
  rintro e w2 ⟨rfl, hb⟩
  have HB_w2 := Lib.hid (HB_W1.out.trans (hb.mono HB_W1.out.size))
  have Hl_w2 := Lib.hid (heap_below hb Hl_W1.out)
  clear hb CP k0 k1 k2 k3
  obtain ⟨qa, hqa⟩ : ∃ q, q = w2.heap.size := ⟨_, rfl⟩
  obtain ⟨W2, hW2⟩ : ∃ W, W = w2.alloc (.cells #[.int .u8 2, .int .i64 1, .int .i64 0] 52) := ⟨_, rfl⟩
  have bW2 : Below w2.heap.size w2 W2 := by rw [hW2]; exact (Below.refl _ _).alloc (Nat.le_refl _) _
  have nqa : W2.heap[qa]? = some (.cells #[.int .u8 2, .int .i64 1, .int .i64 0] 52 (0, 0)) := by rw [hW2, hqa]; exact heap_alloc_at rfl
  have HB_W2 := Lib.hid (HB_w2.out.trans (bW2.mono HB_w2.out.size))
  have Hl_W2 := Lib.hid (heap_below bW2 Hl_w2.out)
  have Hqa_W2 := Lib.hid nqa
  have HW_W2 := Lib.hid hW2; have HQ_qa := Lib.hid hqa
  clear hqa hW2 bW2 nqa
  go_upto_region 3 with fail
  rw [← HW_W2.out, ← HQ_qa.out]
  have HN_qa : Hid (qa ≠ l) := by show _ ≠ _; have := HQ_qa.out; have := heap_lt Hl_w2.out; omega
  go_wp2_with fail
  refine (P2.out W2 HB_W2.out).mono ?_
  rintro e w3 ⟨p1, c1, p2, c2, p3, c3, rfl, hT, hb⟩
  have HB_w3 := Lib.hid (HB_W2.out.trans (hb.mono HB_W2.out.size))
  have Hl_w3 := Lib.hid (heap_below hb Hl_W2.out)
  have Hqa_w3 := Lib.hid (heap_below hb Hqa_W2.out)
  obtain ⟨⟨k0, k1, k2, k3⟩, g0, g1, g2, g3⟩ := four_cells Hl_w3.out
  obtain ⟨W3, hW3⟩ : ∃ W, W = set4 w3 l (.string (mkS nmT2.name)) (.slice p1 2 c1) (.slice p2 2 c2) (.slice p3 2 c3) := ⟨_, rfl⟩
  have HT_W3 : Hid (TyT W3 (.slice p1 2 c1) (.slice p2 2 c2) (.slice p3 2 c3) nmT2) := by rw [hW3]; exact hT.set4 Hl_w3.out
  have HB_W3 : Hid (Below w.heap.size w W3) := by rw [hW3]; exact below_set4 HB_w3.out HLQ.out
  have Hl_W3 : Hid (W3.heap[l]? = some (.cells #[.string (mkS nmT2.name), .slice p1 2 c1, .slice p2 2 c2, .slice p3 2 c3] 26 (0, 0))) := by rw [hW3]; exact set4_heap Hl_w3.out
  have Hqa_W3 : Hid (W3.heap[qa]? = some (.cells #[.int .u8 2, .int .i64 1, .int .i64 0] 52 (0, 0))) := by rw [hW3]; exact (set4_other HN_qa.out).trans Hqa_w3.out
  have T_W3 := HT_W3
  unfold set4 at hW3
  have HW_W3 := Lib.hid hW3
  clear hT hb hW3 P2
  go_upto_region 4 with fail
  rw [← HW_W3.out]
  clear k0 k1 k2 k3 g0 g1 g2 g3
  obtain ⟨⟨k0, k1, k2, k3⟩, _⟩ := four_cells Hl_W3.out
  have CP := Lib.hid (prove_any nmT2 _ _ _ W3 T_W3.out.tab (frm_small (by kernel_rfl)) (HL.out _ HB_W3.out))
  rw [nmP2.1, nmP2.2] at CP
  unfold tabV brkV at CP
  go_wp2_with fail
  refine CP.out.mono ?_
  rintro e w4 ⟨rfl, hb⟩
  have HB_w4 := Lib.hid (HB_W3.out.trans (hb.mono HB_W3.out.size))
  have Hl_w4 := Lib.hid (heap_below hb Hl_W3.out)
  have Hqa_w4 := Lib.hid (heap_below hb Hqa_W3.out)
  clear hb CP k0 k1 k2 k3
  obtain ⟨qb, hqb⟩ : ∃ q, q = w4.heap.size := ⟨_, rfl⟩
  obtain ⟨W4, hW4⟩ : ∃ W, W = w4.alloc (.cells #[.int .u8 1, .int .i64 0, .int .i64 0] 52) := ⟨_, rfl⟩
  have bW4 : Below w4.heap.size w4 W4 := by rw [hW4]; exact (Below.refl _ _).alloc (Nat.le_refl _) _
  have nqb : W4.heap[qb]? = some (.cells #[.int .u8 1, .int .i64 0, .int .i64 0] 52 (0, 0)) := by rw [hW4, hqb]; exact heap_alloc_at rfl
  have HB_W4 := Lib.hid (HB_w4.out.trans (bW4.mono HB_w4.out.size))
  have Hl_W4 := Lib.hid (heap_below bW4 Hl_w4.out)
  have Hqa_W4 := Lib.hid (heap_below bW4 Hqa_w4.out)
  have Hqb_W4 := Lib.hid nqb
  have HW_W4 := Lib.hid hW4; have HQ_qb := Lib.hid hqb
  clear hqb hW4 bW4 nqb
  go_upto_region 5 with fail
  rw [← HW_W4.out, ← HQ_qb.out]
  have HN_qb : Hid (qb ≠ l) := by show _ ≠ _; have := HQ_qb.out; have := heap_lt Hl_w4.out; omega
  go_wp2_with fail
  refine (P3.out W4 HB_W4.out).mono ?_
  rintro e w5 ⟨p1, c1, p2, c2, p3, c3, rfl, hT, hb⟩
  have HB_w5 := Lib.hid (HB_W4.out.trans (hb.mono HB_W4.out.size))
  have Hl_w5 := Lib.hid (heap_below hb Hl_W4.out)
  have Hqa_w5 := Lib.hid (heap_below hb Hqa_W4.out)
  have Hqb_w5 := Lib.hid (heap_below hb Hqb_W4.out)
  obtain ⟨⟨k0, k1, k2, k3⟩, g0, g1, g2, g3⟩ := four_cells Hl_w5.out
  obtain ⟨W5, hW5⟩ : ∃ W, W = set4 w5 l (.string (mkS nmT3.name)) (.slice p1 3 c1) (.slice p2 3 c2) (.slice p3 3 c3) := ⟨_, rfl⟩
  have HT_W5 : Hid (TyT W5 (.slice p1 3 c1) (.slice p2 3 c2) (.slice p3 3 c3) nmT3) := by rw [hW5]; exact hT.set4 Hl_w5.out
  have HB_W5 : Hid (Below w.heap.size w W5) := by rw [hW5]; exact below_set4 HB_w5.out HLQ.out
  have Hl_W5 : Hid (W5.heap[l]? = some (.cells #[.string (mkS nmT3.name), .slice p1 3 c1, .slice p2 3 c2, .slice p3 3 c3] 26 (0, 0))) := by rw [hW5]; exact set4_heap Hl_w5.out
  have Hqa_W5 : Hid (W5.heap[qa]? = some (.cells #[.int .u8 2, .int .i64 1, .int .i64 0] 52 (0, 0))) := by rw [hW5]; exact (set4_other HN_qa.out).trans Hqa_w5.out
  have Hqb_W5 : Hid (W5.heap[qb]? = some (.cells #[.int .u8 1, .int .i64 0, .int .i64 0] 52 (0, 0))) := by rw [hW5]; exact (set4_other HN_qb.out).trans Hqb_w5.out
  have T_W5 := HT_W5
  unfold set4 at hW5
  have HW_W5 := Lib.hid hW5
  clear hT hb hW5 P3
  go_upto_region 6 with fail
  rw [← HW_W5.out]
  clear k0 k1 k2 k3 g0 g1 g2 g3
  obtain ⟨⟨k0, k1, k2, k3⟩, _⟩ := four_cells Hl_W5.out
  have CP := Lib.hid (prove_any nmT3 _ _ _ W5 T_W5.out.tab (frm_small (by kernel_rfl)) (HL.out _ HB_W5.out))
  rw [nmP3.1, nmP3.2] at CP
  unfold tabV brkV at CP
  go_wp2_with fail
  refine CP.out.mono ?_
  rintro e w6 ⟨rfl, hb⟩
  have HB_w6 := Lib.hid (HB_W5.out.trans (hb.mono HB_W5.out.size))
  have Hl_w6 := Lib.hid (heap_below hb Hl_W5.out)
  have Hqa_w6 := Lib.hid (heap_below hb Hqa_W5.out)
  have Hqb_w6 := Lib.hid (heap_below hb Hqb_W5.out)
  clear hb CP k0 k1 k2 k3
  obtain ⟨qc, hqc⟩ : ∃ q, q = w6.heap.size := ⟨_, rfl⟩
  obtain ⟨W6, hW6⟩ : ∃ W, W = w6.alloc (.cells #[.int .u8 5, .int .i64 1, .int .i64 2] 52) := ⟨_, rfl⟩
  have bW6 : Below w6.heap.size w6 W6 := by rw [hW6]; exact (Below.refl _ _).alloc (Nat.le_refl _) _
  have nqc : W6.heap[qc]? = some (.cells #[.int .u8 5, .int .i64 1, .int .i64 2] 52 (0, 0)) := by rw [hW6, hqc]; exact heap_alloc_at rfl
  have HB_W6 := Lib.hid (HB_w6.out.trans (bW6.mono HB_w6.out.size))
  have Hl_W6 := Lib.hid (heap_below bW6 Hl_w6.out)
  have Hqa_W6 := Lib.hid (heap_below bW6 Hqa_w6.out)
  have Hqb_W6 := Lib.hid (heap_below bW6 Hqb_w6.out)
  have Hqc_W6 := Lib.hid nqc
  have HW_W6 := Lib.hid hW6; have HQ_qc := Lib.hid hqc
  clear hqc hW6 bW6 nqc
  go_upto_region 7 with fail
  rw [← HW_W6.out, ← HQ_qc.out]
  have HN_qc : Hid (qc ≠ l) := by show _ ≠ _; have := HQ_qc.out; have := heap_lt Hl_w6.out; omega
  go_wp2_with fail
  refine (P4.out W6 HB_W6.out).mono ?_
  rintro e w7 ⟨p1, c1, p2, c2, p3, c3, rfl, hT, hb⟩
  have HB_w7 := Lib.hid (HB_W6.out.trans (hb.mono HB_W6.out.size))
  have Hl_w7 := Lib.hid (heap_below hb Hl_W6.out)
  have Hqa_w7 := Lib.hid (heap_below hb Hqa_W6.out)
  have Hqb_w7 := Lib.hid (heap_below hb Hqb_W6.out)
  have Hqc_w7 := Lib.hid (heap_below hb Hqc_W6.out)
  obtain ⟨⟨k0, k1, k2, k3⟩, g0, g1, g2, g3⟩ := four_cells Hl_w7.out
  obtain ⟨W7, hW7⟩ : ∃ W, W = set4 w7 l (.string (mkS nmT4.name)) (.slice p1 3 c1) (.slice p2 3 c2) (.slice p3 3 c3) := ⟨_, rfl⟩
  have HT_W7 : Hid (TyT W7 (.slice p1 3 c1) (.slice p2 3 c2) (.slice p3 3 c3) nmT4) := by rw [hW7]; exact hT.set4 Hl_w7.out
  have HB_W7 : Hid (Below w.heap.size w W7) := by rw [hW7]; exact below_set4 HB_w7.out HLQ.out
  have Hl_W7 : Hid (W7.heap[l]? = some (.cells #[.string (mkS nmT4.name), .slice p1 3 c1, .slice p2 3 c2, .slice p3 3 c3] 26 (0, 0))) := by rw [hW7]; exact set4_heap Hl_w7.out
  have Hqa_W7 : Hid (W7.heap[qa]? = some (.cells #[.int .u8 2, .int .i64 1, .int .i64 0] 52 (0, 0))) := by rw [hW7]; exact (set4_other HN_qa.out).trans Hqa_w7.out
  have Hqb_W7 : Hid (W7.heap[qb]? = some (.cells #[.int .u8 1, .int .i64 0, .int .i64 0] 52 (0, 0))) := by rw [hW7]; exact (set4_other HN_qb.out).trans Hqb_w7.out
  have Hqc_W7 : Hid (W7.heap[qc]? = some (.cells #[.int .u8 5, .int .i64 1, .int .i64 2] 52 (0, 0))) := by rw [hW7]; exact (set4_other HN_qc.out).trans Hqc_w7.out
  have T_W7 := HT_W7
  unfold set4 at hW7
  have HW_W7 := Lib.hid hW7
  clear hT hb hW7 P4
  go_upto_region 8 with fail
  rw [← HW_W7.out]
  clear k0 k1 k2 k3 g0 g1 g2 g3
  obtain ⟨⟨k0, k1, k2, k3⟩, _⟩ := four_cells Hl_W7.out
  have CS := Lib.hid (Slim_any nmT4 _ _ _ W7 T_W7.out.tab (frm_small (by kernel_rfl)) (HL.out _ HB_W7.out))
  rw [nmL5, nmL4] at CS
  unfold tabV at CS
  go_wp2_with fail
  refine CS.out.mono ?_
  rintro e w8 ⟨xe, xa, xw, rfl, hT, hb⟩
  have HB_w8 := Lib.hid (HB_W7.out.trans (hb.mono HB_W7.out.size))
  have Hl_w8 := Lib.hid (heap_below hb Hl_W7.out)
  have Hqa_w8 := Lib.hid (heap_below hb Hqa_W7.out)
  have Hqb_w8 := Lib.hid (heap_below hb Hqb_W7.out)
  have Hqc_w8 := Lib.hid (heap_below hb Hqc_W7.out)
  obtain ⟨q1, d1, q2, d2, q3, d3, rfl, rfl, rfl⟩ : ∃ q1 d1 q2 d2 q3 d3, xe = .slice q1 3 d1 ∧ xa = .slice q2 3 d2 ∧ xw = .slice q3 3 d3 := by
    obtain ⟨q1, d1, e1⟩ := hT.e.form
    obtain ⟨q2, d2, e2⟩ := hT.a.form
    obtain ⟨q3, d3, e3⟩ := hT.w.form
    exact ⟨q1, d1, q2, d2, q3, d3, e1, e2, e3⟩
  obtain ⟨qs, hqs⟩ : ∃ q, q = w8.heap.size := ⟨_, rfl⟩
  obtain ⟨W8, hW8⟩ : ∃ W, W = w8.alloc (.cells #[.string (mkS nmT5.name), .slice q1 3 d1, .slice q2 3 d2, .slice q3 3 d3] 26) := ⟨_, rfl⟩
  have bW8 : Below w8.heap.size w8 W8 := by rw [hW8]; exact (Below.refl _ _).alloc (Nat.le_refl _) _
  have nqs : W8.heap[qs]? = some (.cells #[.string (mkS nmT5.name), .slice q1 3 d1, .slice q2 3 d2, .slice q3 3 d3] 26 (0, 0)) := by rw [hW8, hqs]; exact heap_alloc_at rfl
  have HB_W8 := Lib.hid (HB_w8.out.trans (bW8.mono HB_w8.out.size))
  have Hl_W8 := Lib.hid (heap_below bW8 Hl_w8.out)
  have Hqa_W8 := Lib.hid (heap_below bW8 Hqa_w8.out)
  have Hqb_W8 := Lib.hid (heap_below bW8 Hqb_w8.out)
  have Hqc_W8 := Lib.hid (heap_below bW8 Hqc_w8.out)
  have Hqs_W8 := Lib.hid nqs
  have HW_W8 := Lib.hid hW8; have HQ_qs := Lib.hid hqs
  have T_W8 := Lib.hid (hT.below bW8)
  clear hT hb hqs hW8 bW8 nqs CS k0 k1 k2 k3
  go_upto_region 9 with fail
  rw [← HW_W8.out, ← HQ_qs.out]
  obtain ⟨⟨k0, k1, k2, k3⟩, _⟩ := four_cells Hqs_W8.out
  have CX := Lib.hid (text_yes HJ nmT5 _ _ _ W8 T_W8.out (frm_small nmL6.1) (HL.out _ HB_W8.out) nmL6.1)
  rw [nmL6.2] at CX
  unfold tabV at CX
  go_wp2_with fail
  refine CX.out.mono ?_
  rintro e w9 ⟨rfl, hb⟩
  have HB_w9 := Lib.hid (HB_W8.out.trans (hb.mono HB_W8.out.size))
  have Hl_w9 := Lib.hid (heap_below hb Hl_W8.out)
  have Hqa_w9 := Lib.hid (heap_below hb Hqa_W8.out)
  have Hqb_w9 := Lib.hid (heap_below hb Hqb_W8.out)
  have Hqc_w9 := Lib.hid (heap_below hb Hqc_W8.out)
  have Hqs_w9 := Lib.hid (heap_below hb Hqs_W8.out)
  clear hb CX k0 k1 k2 k3
  obtain ⟨⟨k0, k1, k2⟩, _⟩ := three_cells Hqa_w9.out
  obtain ⟨⟨m0, m1, m2⟩, _⟩ := three_cells Hqb_w9.out
  obtain ⟨⟨o0, o1, o2⟩, _⟩ := three_cells Hqc_w9.out
  have hS5 : (mkS nmS5).toList = [108, 97, 116, 116, 105, 99, 101, 32, 113, 32, 123, 32, 97, 58, 32, 98, 59, 32, 98, 58, 32, 99, 59, 32, 99, 32, 125] := by rw [mkS_toList]; rfl
  go_wp2_with fail
  clear k0 k1 k2 m0 m1 m2 o0 o1 o2 hS5
  refine (tab_at manyT _ w9 5 5 5 rfl rfl rfl (many_any w9)).mono ?_
  rintro e w10 ⟨p1, c1, p2, c2, p3, c3, rfl, hT, hb⟩
  have HB_w10 := Lib.hid (HB_w9.out.trans (hb.mono HB_w9.out.size))
  clear hb
  have C := Lib.hid (Join_any manyT _ _ _ 0 9 w10 hT (frm_small (by kernel_rfl)) (HL.out _ HB_w10.out))
  rw [nmJ1, if_neg (by decide)] at C
  unfold tabV at C
  clear hT
  go_wp2_with fail
  refine C.out.mono ?_
  rintro e w11 ⟨rfl, hb⟩
  have HB_w11 := Lib.hid (HB_w10.out.trans (hb.mono HB_w10.out.size))
  clear hb C
  go_wp2_with fail
  refine (tab_at diamondT _ w11 4 4 4 rfl rfl rfl (diamond_any w11)).mono ?_
  rintro e w12 ⟨p1, c1, p2, c2, p3, c3, rfl, hT, hb⟩
  have HB_w12 := Lib.hid (HB_w11.out.trans (hb.mono HB_w11.out.size))
  clear hb
  have C := Lib.hid (Join_any diamondT _ _ _ 0 4 w12 hT (frm_small (by kernel_rfl)) (HL.out _ HB_w12.out))
  rw [nmJ2, if_neg (by decide)] at C
  unfold tabV at C
  clear hT
  go_wp2_with fail
  refine C.out.mono ?_
  rintro e w13 ⟨rfl, hb⟩
  have HB_w13 := Lib.hid (HB_w12.out.trans (hb.mono HB_w12.out.size))
  clear hb C
  go_wp2_with fail
  refine (tab_at manyT _ w13 5 5 5 rfl rfl rfl (many_any w13)).mono ?_
  rintro e w14 ⟨p1, c1, p2, c2, p3, c3, rfl, hT, hb⟩
  have HB_w14 := Lib.hid (HB_w13.out.trans (hb.mono HB_w13.out.size))
  clear hb
  have C := Lib.hid (Reach_any manyT _ _ _ (-1) w14 hT (frm_small (by kernel_rfl)) (HL.out _ HB_w14.out))
  rw [nmJ3] at C
  unfold tabV at C
  clear hT
  go_wp2_with fail
  refine C.out.mono ?_
  rintro e w15 ⟨v, rfl, _, hb⟩
  have HB_w15 := Lib.hid (HB_w14.out.trans (hb.mono HB_w14.out.size))
  clear hb C
  go_wp2_with fail
  have C := Lib.hid (parse_any nmS6 w15 (by decide) (HL.out _ HB_w15.out))
  rw [nm6] at C
  refine C.out.mono ?_
  rintro e w16 ⟨xe, xa, xw, rfl, _, hb⟩
  have HB_w16 := Lib.hid (HB_w15.out.trans (hb.mono HB_w15.out.size))
  clear hb C
  obtain ⟨tv, htv⟩ : ∃ x, x = tabV (parF nmS6) xe xa xw := ⟨_, rfl⟩
  rw [← htv]
  clear htv
  go_wp2_with fail
  have C := Lib.hid (Below_any zeroT (.slice none 0 0) (.slice none 0 0) (.slice none 0 0) 0 0 w16 (zeroT_in _) ⟨by decide, by decide⟩ (HL.out _ HB_w16.out))
  rw [nmJ4] at C
  refine C.out.mono ?_
  rintro e w17 ⟨rfl, hb⟩
  have HB_w17 := Lib.hid (HB_w16.out.trans (hb.mono HB_w16.out.size))
  clear hb C
  go_wp2_with fail
  have C := Lib.hid (parseShape_any nmS7 w17 (by decide) (HL.out _ HB_w17.out))
  rw [nm7] at C
  refine C.out.mono ?_
  rintro e w18 ⟨v7, rfl, _, hb⟩
  have HB_w18 := Lib.hid (HB_w17.out.trans (hb.mono HB_w17.out.size))
  clear hb C
  obtain ⟨tv7, htv⟩ : ∃ x, x = shpV (psF nmS7) v7 := ⟨_, rfl⟩
  rw [← htv]
  clear htv
  go_wp2_with fail
  have C := Lib.hid (parseShape_any nmS8 w18 (by decide) (HL.out _ HB_w18.out))
  rw [nm8] at C
  refine C.out.mono ?_
  rintro e w19 ⟨v8, rfl, hK, hb⟩
  have HB_w19 := Lib.hid (HB_w18.out.trans (hb.mono HB_w18.out.size))
  obtain ⟨p8, c8, rfl⟩ := hK.form
  clear hb C hK
  unfold shpV
  obtain ⟨WA, hWA⟩ : ∃ W, W = w19.alloc (.cells #[.int .u8 (psF nmS8).k, .string (mkS (psF nmS8).nm), .slice p8 (psF nmS8).n c8] 42) := ⟨_, rfl⟩
  have hb : Below w19.heap.size w19 WA := by rw [hWA]; exact (Below.refl _ _).alloc (Nat.le_refl _) _
  have HB_WA := Lib.hid (HB_w19.out.trans (hb.mono HB_w19.out.size))
  have HWA := Lib.hid hWA
  clear hb hWA
  go_upto_region 19 with fail
  rw [← HWA.out]
  go_wp2_with fail
  refine (tab_at diamondT _ WA 4 4 4 rfl rfl rfl (diamond_any WA)).mono ?_
  rintro e w20 ⟨ap1, ac1, ap2, ac2, ap3, ac3, rfl, hTa, hb⟩
  have HB_w20 := Lib.hid (HB_WA.out.trans (hb.mono HB_WA.out.size))
  have HTa := Lib.hid hTa
  clear hb hTa
  go_wp2_with fail
  refine (tab_at diamondT _ w20 4 4 4 rfl rfl rfl (diamond_any w20)).mono ?_
  rintro e w21 ⟨bp1, bc1, bp2, bc2, bp3, bc3, rfl, hTb, hb⟩
  have HB_w21 := Lib.hid (HB_w20.out.trans (hb.mono HB_w20.out.size))
  have HT0b := Lib.hid (HTa.out.below hb)
  have HTb := Lib.hid hTb
  clear hb hTb
  obtain ⟨WC1, hWC1⟩ : ∃ W, W = w21.alloc (.cells #[.string (mkS diamondT.name), .slice ap1 4 ac1, .slice ap2 4 ac2, .slice ap3 4 ac3, .string (mkS diamondT.name), .slice bp1 4 bc1, .slice bp2 4 bc2, .slice bp3 4 bc3] 26) := ⟨_, rfl⟩
  obtain ⟨kc, hkc⟩ : ∃ x, x = w21.heap.size := ⟨_, rfl⟩
  have hb : Below w21.heap.size w21 WC1 := by rw [hWC1]; exact (Below.refl _ _).alloc (Nat.le_refl _) _
  have hkh : WC1.heap[kc]? = some (.cells #[.string (mkS diamondT.name), .slice ap1 4 ac1, .slice ap2 4 ac2, .slice ap3 4 ac3, .string (mkS diamondT.name), .slice bp1 4 bc1, .slice bp2 4 bc2, .slice bp3 4 bc3] 26 (0, 0)) := by rw [hWC1, hkc]; exact heap_alloc_at rfl
  have hTs : TabsIn WC1 (.slice (some ⟨kc, 0, none⟩) 2 2) [diamondT, diamondT] := tabs_two hkh (HT0b.out.below hb) (HTb.out.below hb)
  have HB_WC1 := Lib.hid (HB_w21.out.trans (hb.mono HB_w21.out.size))
  have C := Lib.hid (checkShape_any [diamondT, diamondT] 1 (.mk 1 [] []) _ _ WC1 hTs (kid_none WC1 1 [] (by decide) (by decide)) (fun t ht => frm_sm [diamondT, diamondT] (by decide) t ht) (HL.out _ HB_WC1.out))
  rw [nmC1] at C
  unfold shpV at C
  have HWWC1 := Lib.hid hWC1; have HKC := Lib.hid hkc
  clear hb hTs hkh hWC1 hkc
  go_wp2_with fail
  rw [← HWWC1.out, ← HKC.out]
  refine C.out.mono ?_
  rintro e w22 ⟨rfl, hb⟩
  have HB_w22 := Lib.hid (HB_WC1.out.trans (hb.mono HB_WC1.out.size))
  clear hb C HKC
  go_wp2_with fail
  refine (tab_at diamondT _ w22 4 4 4 rfl rfl rfl (diamond_any w22)).mono ?_
  rintro e w23 ⟨cp1, cc1, cp2, cc2, cp3, cc3, rfl, hTc, hb⟩
  have HB_w23 := Lib.hid (HB_w22.out.trans (hb.mono HB_w22.out.size))
  have HTc := Lib.hid hTc
  clear hb hTc
  go_wp2_with fail
  refine (tab_at manyT _ w23 5 5 5 rfl rfl rfl (many_any w23)).mono ?_
  rintro e w24 ⟨dp1, dc1, dp2, dc2, dp3, dc3, rfl, hTd, hb⟩
  have HB_w24 := Lib.hid (HB_w23.out.trans (hb.mono HB_w23.out.size))
  have HT0b := Lib.hid (HTc.out.below hb)
  have HTd := Lib.hid hTd
  clear hb hTd
  obtain ⟨WC2, hWC2⟩ : ∃ W, W = w24.alloc (.cells #[.string (mkS diamondT.name), .slice cp1 4 cc1, .slice cp2 4 cc2, .slice cp3 4 cc3, .string (mkS manyT.name), .slice dp1 5 dc1, .slice dp2 5 dc2, .slice dp3 5 dc3] 26) := ⟨_, rfl⟩
  obtain ⟨kc, hkc⟩ : ∃ x, x = w24.heap.size := ⟨_, rfl⟩
  have hb : Below w24.heap.size w24 WC2 := by rw [hWC2]; exact (Below.refl _ _).alloc (Nat.le_refl _) _
  have hkh : WC2.heap[kc]? = some (.cells #[.string (mkS diamondT.name), .slice cp1 4 cc1, .slice cp2 4 cc2, .slice cp3 4 cc3, .string (mkS manyT.name), .slice dp1 5 dc1, .slice dp2 5 dc2, .slice dp3 5 dc3] 26 (0, 0)) := by rw [hWC2, hkc]; exact heap_alloc_at rfl
  have hTs : TabsIn WC2 (.slice (some ⟨kc, 0, none⟩) 2 2) [diamondT, manyT] := tabs_two hkh (HT0b.out.below hb) (HTd.out.below hb)
  have HB_WC2 := Lib.hid (HB_w24.out.trans (hb.mono HB_w24.out.size))
  have C := Lib.hid (checkShape_any [diamondT, manyT] 1 (.mk 5 [108] []) _ _ WC2 hTs (kid_none WC2 5 [108] (by decide) (by decide)) (fun t ht => frm_sm [diamondT, manyT] (by decide) t ht) (HL.out _ HB_WC2.out))
  rw [nmC2] at C
  unfold shpV at C
  have HWWC2 := Lib.hid hWC2; have HKC := Lib.hid hkc
  clear hb hTs hkh hWC2 hkc
  go_wp2_with fail
  rw [← HWWC2.out, ← HKC.out]
  refine C.out.mono ?_
  rintro e w25 ⟨rfl, hb⟩
  have HB_w25 := Lib.hid (HB_WC2.out.trans (hb.mono HB_WC2.out.size))
  clear hb C HKC
  go_wp2_with fail
  refine (tab_at diamondT _ w25 4 4 4 rfl rfl rfl (diamond_any w25)).mono ?_
  rintro e w26 ⟨fp1, fc1, fp2, fc2, fp3, fc3, rfl, hTf, hb⟩
  have HB_w26 := Lib.hid (HB_w25.out.trans (hb.mono HB_w25.out.size))
  have HTf := Lib.hid hTf
  clear hb hTf
  obtain ⟨WC3, hWC3⟩ : ∃ W, W = w26.alloc (.cells #[.string (mkS diamondT.name), .slice fp1 4 fc1, .slice fp2 4 fc2, .slice fp3 4 fc3] 26) := ⟨_, rfl⟩
  obtain ⟨kc, hkc⟩ : ∃ x, x = w26.heap.size := ⟨_, rfl⟩
  have hb : Below w26.heap.size w26 WC3 := by rw [hWC3]; exact (Below.refl _ _).alloc (Nat.le_refl _) _
  have hkh : WC3.heap[kc]? = some (.cells #[.string (mkS diamondT.name), .slice fp1 4 fc1, .slice fp2 4 fc2, .slice fp3 4 fc3] 26 (0, 0)) := by rw [hWC3, hkc]; exact heap_alloc_at rfl
  have hTs : TabsIn WC3 (.slice (some ⟨kc, 0, none⟩) 1 1) [diamondT] := tabs_one hkh (HTf.out.below hb)
  have HB_WC3 := Lib.hid (HB_w26.out.trans (hb.mono HB_w26.out.size))
  have C := Lib.hid (checkShape_any [diamondT] 1 (.mk 5 [109] []) _ _ WC3 hTs (kid_none WC3 5 [109] (by decide) (by decide)) (fun t ht => frm_sm [diamondT] (by decide) t ht) (HL.out _ HB_WC3.out))
  rw [nmC3] at C
  unfold shpV at C
  have HWWC3 := Lib.hid hWC3; have HKC := Lib.hid hkc
  clear hb hTs hkh hWC3 hkc
  go_wp2_with fail
  rw [← HWWC3.out, ← HKC.out]
  refine C.out.mono ?_
  rintro e w27 ⟨rfl, hb⟩
  have HB_w27 := Lib.hid (HB_WC3.out.trans (hb.mono HB_WC3.out.size))
  clear hb C HKC
  obtain ⟨ZC, hmk⟩ := make_nine
  go_wp2_with fail
  refine (checkShape_many 9 _ _ 0 ⟨#[]⟩ (.slice none 0 0) _ (by omega) ⟨_, _, _, rfl⟩).mono ?_
  rintro e w28 ⟨rfl, hb⟩
  have HB_w28 : Hid (Below w.heap.size w w28) := by
    have h1 := HB_w27.out.alloc HB_w27.out.size (.cells ZC 26)
    exact h1.trans (hb.mono h1.size)
  clear hb
  go_wp2_with fail
  refine (CA.out w28 HB_w28.out).mono ?_
  rintro e w29 ⟨rfl, hb⟩
  have HB_w29 := Lib.hid (HB_w28.out.trans (hb.mono HB_w28.out.size))
  clear hb
  go_wp2
  go_ret
  exact ⟨rfl, HB_w29.out⟩
end Go.Proofs.YtfhnigpjmljhbaaDoor.Or
