/- The reference's Break. -/
import Derived.Test.YtfhnigpjmljhbaaDoorOrFd
import Derived.Test.YtfhnigpjmljhbaaDoorOrZ
set_option linter.unusedVariables false
set_option linter.unusedSimpArgs false
namespace Go.Proofs.YtfhnigpjmljhbaaDoor.Or
open Go.RowKit Go.Shelf

def set3 (w : World) (b : Nat) (x0 x1 x2 : Value) : World := ((w.setCell ⟨b, 0, none⟩ x0).setCell ⟨b, 1, none⟩ x1).setCell ⟨b, 2, none⟩ x2
theorem set3_heap {w : World} {b : Nat} {c0 c1 c2 x0 x1 x2 : Value} {T : TypeId} {fr : Nat × Nat} (hz : w.heap[b]? = some (.cells #[c0, c1, c2] T fr)) : (set3 w b x0 x1 x2).heap[b]? = some (.cells #[x0, x1, x2] T fr) := by
  unfold set3
  have h1 := setCell_heap (i := 0) (x := x0) hz
  have h2 := setCell_heap (i := 1) (x := x1) h1
  have h3 := setCell_heap (i := 2) (x := x2) h2
  rw [h3]; simp
theorem below_set3 {w W : World} {B b : Nat} {x0 x1 x2 : Value} (h : Below B w W) (hb : B ≤ b) : Below B w (set3 W b x0 x1 x2) :=
  ((h.setCell hb _).setCell hb _).setCell hb _
theorem RdB.cells {w : World} {p : Option Addr} {n cap : Nat} {ls : List Bool} (h : RdB w (.slice p n cap) ls) (h0 : 0 < ls.length) : ∃ b off, p = some ⟨b, off, none⟩ ∧ ∀ i, i < ls.length → w.cell? ⟨b, off + i, none⟩ = some (.bool (ls.getD i false)) := by
  obtain ⟨b, off, h1, h2⟩ := h.cell (i := 0) h0
  refine ⟨b, off, h1, fun i hi => ?_⟩
  obtain ⟨b', off', h1', h2'⟩ := h.cell hi
  rw [h1] at h1'; injection h1' with h1'; injection h1' with e1 e2 e3
  rw [e1, e2]; exact h2'
theorem find_lex {l : List (Nat × Nat)} {p : Nat × Nat → Bool} {a b : Nat} (hs : l.Pairwise lexP) (hm : (a, b) ∈ l) (hp : p (a, b) = true) (h : ∀ x y, (x, y) ∈ l → (x < a ∨ x = a ∧ y < b) → p (x, y) = false) : l.find? p = some (a, b) := by
  obtain ⟨l1, l2, rfl⟩ := List.append_of_mem hm
  rw [List.find?_eq_some_iff_append]
  refine ⟨hp, l1, l2, rfl, fun q hq => ?_⟩
  rw [List.pairwise_append] at hs
  have := hs.2.2 q hq (a, b) (List.mem_cons_self ..)
  have h2 := h q.1 q.2 (List.mem_append_left _ hq) this
  simp [h2]
theorem brk_pair2 {R : Nat → Nat → Bool} {n a b : Nat} {wr : Nat → Bool} (hA : ∀ j, j < n → R j j = false) (hB : ∀ j, j < n → bel R 0 j = true) (hab : a < b) (hb : b < n)
    (h : ∀ x y, x < y → y < n → (x < a ∨ x = a ∧ y < b) → (joinO R n x y).isSome = true) (hx : (joinO R n a b).isSome = false) : brkF R n wr = (if (ups R n [a, b]).isEmpty then 3 else 4, a, b) := by
  have h1 : (List.range n).find? (fun a => R a a) = none := range_none hA
  have h2 : (List.range n).find? (fun a => !bel R 0 a) = none := range_none fun j hj => by rw [hB j hj]; rfl
  have h3 : (pairsL n).find? (fun p => (joinO R n p.1 p.2).isNone) = some (a, b) := find_lex (pairsL_sorted n) (mem_pairsL.2 ⟨hab, hb⟩) (by simpa using hx) fun x y hm hl => by
    have := mem_pairsL.1 hm
    have h4 := h x y this.1 this.2 hl
    cases hj : joinO R n x y with
    | some j => rfl
    | none => rw [hj] at h4; cases h4
  unfold brkF; rw [h1, h2, h3]
theorem brk_rest2 {R : Nat → Nat → Bool} {n : Nat} {wr : Nat → Bool} (hA : ∀ j, j < n → R j j = false) (hB : ∀ j, j < n → bel R 0 j = true) (hp : ∀ x y, x < y → y < n → (joinO R n x y).isSome = true) : brkF R n wr = wbF R n wr :=
  brk_rest hA hB fun y hy => by
    have := mem_pairsL.1 (show (y.1, y.2) ∈ pairsL n from hy)
    have h4 := hp y.1 y.2 this.1 this.2
    cases hj : joinO R n y.1 y.2 with
    | some j => rfl
    | none => rw [hj] at h4; cases h4
def wrongL (R : Nat → Nat → Bool) (n : Nat) : List (Nat × Nat) := (List.range n).flatMap fun a => (ups R n [a]).map fun b => (a, b)
theorem wrongL_sorted (R : Nat → Nat → Bool) (n : Nat) : (wrongL R n).Pairwise lexP := by
  unfold wrongL
  rw [List.pairwise_flatMap]
  refine ⟨fun a _ => ?_, ?_⟩
  · rw [List.pairwise_map]
    unfold ups
    exact (List.pairwise_lt_range.filter _).imp (fun h => .inr ⟨rfl, h⟩)
  · refine List.pairwise_lt_range.imp ?_
    intro a c h x hx y hy
    simp only [List.mem_map] at hx hy
    obtain ⟨_, _, rfl⟩ := hx; obtain ⟨_, _, rfl⟩ := hy
    exact .inl h
theorem mem_wrongL {R : Nat → Nat → Bool} {n a b : Nat} : (a, b) ∈ wrongL R n ↔ a < n ∧ b < n ∧ bel R a b = true := by
  simp only [wrongL, List.mem_flatMap, List.mem_range, List.mem_map, Prod.mk.injEq, mem_ups]
  constructor
  · rintro ⟨x, hx, y, ⟨hy, hy2⟩, rfl, rfl⟩; exact ⟨hx, hy, hy2 x (by simp)⟩
  · rintro ⟨h1, h2, h3⟩; exact ⟨a, h1, b, ⟨h2, fun c hc => by simp at hc; rw [hc]; exact h3⟩, rfl, rfl⟩
def badW (R : Nat → Nat → Bool) (wr : Nat → Bool) (a b : Nat) : Bool := wr a && !wr b && bel R a b
theorem wrong_some {R : Nat → Nat → Bool} {n a b : Nat} {wr : Nat → Bool} (ha : a < n) (hb : b < n) (hx : badW R wr a b = true) (h : ∀ x y, x < n → y < n → (x < a ∨ x = a ∧ y < b) → badW R wr x y = false) : wrongF R n wr = some (a, b) := by
  unfold badW at hx
  simp only [Bool.and_eq_true] at hx
  refine find_lex (wrongL_sorted R n) (mem_wrongL.2 ⟨ha, hb, hx.2⟩) (by simp only [hx.1.1, hx.1.2, Bool.and_self]) fun x y hm hl => ?_
  obtain ⟨h1, h2, h3⟩ := mem_wrongL.1 hm
  have := h x y h1 h2 hl
  unfold badW at this
  rw [h3, Bool.and_true] at this
  exact this
theorem wrong_none {R : Nat → Nat → Bool} {n : Nat} {wr : Nat → Bool} (h : ∀ x y, x < n → y < n → badW R wr x y = false) : wrongF R n wr = none := by
  show (wrongL R n).find? _ = none
  rw [List.find?_eq_none]
  rintro ⟨x, y⟩ hm
  obtain ⟨h1, h2, h3⟩ := mem_wrongL.1 hm
  have := h x y h1 h2
  unfold badW at this
  rw [h3, Bool.and_true] at this
  simp [this]
theorem least_none {R : Nat → Nat → Bool} {L : List Nat} : (decide (leastI R L < 0)) = !(leastF R L).isSome := by
  unfold leastI
  cases leastF R L with
  | none => rfl
  | some j => simp

set_option maxRecDepth 100000 in
set_option maxHeartbeats 16000000 in
theorem refBreak_any (t : Tab) (ve va vw : Value) (w : World) (hT : TabIn w ve va vw t) (hf : frmF t = true) :
    Calls Tryd.prog 81 #[tabV t ve va vw] w fun e w' => e = .returned (brkV (brkF t.R t.n t.wr)) ∧ Below w.heap.size w w' := by
  obtain ⟨f1, f2, f3, f4⟩ := frm_len hf
  obtain ⟨n, hn⟩ : ∃ n, n = t.elems.length := ⟨_, rfl⟩
  obtain ⟨m, hm⟩ : ∃ m, m = w.heap.size := ⟨_, rfl⟩
  obtain ⟨pe, ce, rfl⟩ := hT.e.form
  obtain ⟨pa, ca, rfl⟩ := hT.a.form
  obtain ⟨pw, cw, rfl⟩ := hT.w.form
  obtain ⟨W0, hW0⟩ : ∃ W0, W0 = (w.alloc (Obj.cells #[.string (mkS t.name), .slice pe n ce, .slice pa n ca, .slice pw n cw] 26)).alloc (Obj.cells #[.int .u8 0, .int .i64 0, .int .i64 0] 52) := ⟨_, rfl⟩
  have b0 : Below w.heap.size w W0 := by rw [hW0]; exact ((Below.refl _ _).alloc (Nat.le_refl _) _).alloc (by simp) _
  have s0 : W0.heap.size = m + 2 := by rw [hW0, hm]; simp
  have c0 : W0.cell? ⟨m, 0, none⟩ = some (.string (mkS t.name)) := by rw [hW0, hm]; simp [go_sem]
  have c1 : W0.cell? ⟨m, 1, none⟩ = some (.slice pe n ce) := by rw [hW0, hm]; simp [go_sem]
  have c2 : W0.cell? ⟨m, 2, none⟩ = some (.slice pa n ca) := by rw [hW0, hm]; simp [go_sem]
  have z0 : W0.heap[m + 1]? = some (.cells #[.int .u8 0, .int .i64 0, .int .i64 0] 52 (0, 0)) := by rw [hW0, hm]; exact heap_alloc_at (by simp only [alloc_size])
  have n12 : n ≤ 12 := by omega
  have n1 : 1 ≤ n := by omega
  obtain ⟨bw, ow, rfl, hwr⟩ := hT.w.cells (by omega)
  have c3 : W0.cell? ⟨m, 3, none⟩ = some (.slice (some ⟨bw, ow, none⟩) n cw) := by rw [hW0, hm]; simp [go_sem]
  have KS : Hid (∀ U, Below W0.heap.size W0 U → U.cell? ⟨m, 0, none⟩ = some (.string (mkS t.name)) ∧ U.cell? ⟨m, 1, none⟩ = some (.slice pe n ce) ∧ U.cell? ⟨m, 2, none⟩ = some (.slice pa n ca) ∧ U.cell? ⟨m, 3, none⟩ = some (.slice (some ⟨bw, ow, none⟩) n cw)) := fun U h =>
    ⟨(h.cell (cell_lt c0)).trans c0, (h.cell (cell_lt c1)).trans c1, (h.cell (cell_lt c2)).trans c2, (h.cell (cell_lt c3)).trans c3⟩
  have KW : Hid (∀ U, Below W0.heap.size W0 U → ∀ i, i < n → U.cell? ⟨bw, ow + i, none⟩ = some (.bool (t.wr i))) := fun U h i hi => by
    have h1 := hwr i (by omega)
    exact ((b0.trans (h.mono b0.size)).cell (cell_lt h1)).trans h1
  have CS : Hid (∀ U (a : Nat), Below W0.heap.size W0 U → a < n → Calls Tryd.prog 115 #[.agg #[.string (mkS t.name), .slice pe n ce, .slice pa n ca, .slice (some ⟨bw, ow, none⟩) n cw], .int .i64 a, .int .i64 a] U fun e w' => e = .returned (.bool (t.R a a)) ∧ Below U.heap.size U w') := fun U a h ha => by
    have := steps_any t _ _ _ a a U (hT.below (b0.trans (h.mono b0.size))) hf (by unfold Tab.n; omega) (by unfold Tab.n; omega)
    unfold tabV at this
    rw [f3, f4, ← hn] at this
    exact this
  have CR : Hid (∀ U, Below W0.heap.size W0 U → Calls Tryd.prog 114 #[.agg #[.string (mkS t.name), .slice pe n ce, .slice pa n ca, .slice (some ⟨bw, ow, none⟩) n cw]] U fun e w' => ∃ v, e = .returned v ∧ RelIn w' v n (bel t.R) ∧ Below U.heap.size U w') := fun U h => by
    have := rel_any t _ _ _ U (hT.below (b0.trans (h.mono b0.size))) hf
    unfold tabV at this
    rw [f3, f4, ← hn, show t.n = n from hn.symm] at this
    exact this
  have HB0 := Lib.hid b0; have HW0 := Lib.hid hW0; have Z := Lib.hid z0
  have HBW : Hid (∀ U, Below W0.heap.size W0 U → Below w.heap.size w U) := fun U h => b0.trans (h.mono b0.size)
  have LZ : Hid (m + 1 < W0.heap.size) := by show _ < _; omega
  have hnT : t.n = n := hn.symm
  rw [hnT]
  have HM := Lib.hid hm
  unfold tabV
  rw [f3, f4, ← hn]
  clear hT hf hW0 hm hn b0 s0 z0 f1 f2 f3 f4 hnT hwr c0 c1 c2 c3
  go_enter Tryd.func81, Tryd.ntmps81
  go_wp2_with fail
  rw [← HM.out, ← HW0.out]
  go_region_held3 (fun V => V.cell? ⟨m, 0, none⟩ = some (.string (mkS t.name)) ∧ V.cell? ⟨m, 1, none⟩ = some (.slice pe n ce) ∧ V.cell? ⟨m, 2, none⟩ = some (.slice pa n ca) ∧ V.cell? ⟨m, 3, none⟩ = some (.slice (some ⟨bw, ow, none⟩) n cw))
    (exact KS.out _ (by repeat (first | exact Below.refl _ _ | with_reducible refine Below.drew ?_ | refine below_step (by assumption) ?_ (Nat.le_refl _))))
    ((go_at_call 114; refine (CR.out _ (Below.drew (Below.refl _ _))).mono ?_; rintro e w2 ⟨v, rfl, hv, hb2⟩))
  have HB2 : Hid (Below W0.heap.size W0 w2) := below_step hb2 (Below.drew (Below.refl _ _)) (Nat.le_refl _)
  obtain ⟨p, cap, rfl, hrel⟩ := hv
  obtain ⟨bm, om, rfl, hrows⟩ := hrel (by omega)
  have HV : Hid (RelIn w2 (.slice (some ⟨bm, om, none⟩) n cap) n (bel t.R)) := ⟨_, _, rfl, fun _ => ⟨bm, om, rfl, hrows⟩⟩
  have K2 : Hid (∀ U, Below w2.heap.size w2 U → Below W0.heap.size W0 U) := fun U h => HB2.out.trans (h.mono HB2.out.size)
  have KM : Hid (∀ U, Below w2.heap.size w2 U → ∀ i, i < n → ∃ bi oi ci, U.cell? ⟨bm, om + i, none⟩ = some (.slice (some ⟨bi, oi, none⟩) n ci) ∧ ∀ j, j < n → U.cell? ⟨bi, oi + j, none⟩ = some (.bool (bel t.R i j))) := fun U h i hi => by
    obtain ⟨bi, oi, ci, h1, h2⟩ := hrows i hi
    exact ⟨bi, oi, ci, (h.cell (cell_lt h1)).trans h1, fun j hj => (h.cell (cell_lt (h2 j hj))).trans (h2 j hj)⟩
  clear hrel hrows hb2
  go_wp2_with fail
  go_loopw [5] (fun i wr => ∃ a : Nat, a ≤ n ∧ i = .int .i64 a ∧ Hid (∀ j, j < a → t.R j j = false) ∧ Hid (Below w2.heap.size w2 wr)) (fun i _ => n - (intOf i).toNat)
  case atStart => exact ⟨0, Nat.zero_le _, rfl, fun j hj => by omega, Below.refl _ _⟩
  case round =>
    obtain ⟨a, han, rfl, hA, hb⟩ := hrel
    obtain ⟨k0, k1, k2, k3⟩ := KS.out _ (K2.out _ hb.out)
    by_cases hlt : a < n
    · cases hR : t.R a a with
      | true =>
        go_wp2_with fail
        refine (CS.out _ a (K2.out _ hb.out) hlt).mono ?_
        rintro e w3 ⟨rfl, hb3⟩
        rw [hR]
        have hbA := (K2.out _ hb.out).trans (hb3.mono (K2.out _ hb.out).size)
        have HR := Lib.hid hR
        clear hb3 k0 k1 k2 k3 hR
        have hzr := (hbA.block _ LZ.out).trans Z.out
        have y0 := Go.Joins.cell_of_block hzr 0; have g0 := Go.Joins.unfrozen_of_block hzr 0
        have y1 := Go.Joins.cell_of_block hzr 1; have g1 := Go.Joins.unfrozen_of_block hzr 1
        have y2 := Go.Joins.cell_of_block hzr 2; have g2 := Go.Joins.unfrozen_of_block hzr 2
        simp only [List.getElem?_toArray, List.getElem?_cons_zero, List.getElem?_cons_succ] at y0 y1 y2
        have HZR := Lib.hid hzr
        have HEQ : Hid (brkF t.R n t.wr = (1, a, 0)) := brk_cycle hlt hA.out HR.out
        have HBU : Hid (Below W0.heap.size W0 w3) := hbA
        clear hzr
        go_wp2
        obtain ⟨WF, hWF⟩ : ∃ WF, WF = set3 w3 (m + 1) (.int .u8 ((1 : Nat) : Int)) (.int .i64 ((a : Nat) : Int)) (.int .i64 ((0 : Nat) : Int)) := ⟨_, rfl⟩
        have hWF2 := hWF
        unfold set3 at hWF2
        try simp only [Int.cast_ofNat_Int, Int.ofNat_zero, Int.natCast_one, Int.natCast_zero] at hWF2
        rw [← hWF2]
        have hzF := set3_heap (x0 := .int .u8 ((1 : Nat) : Int)) (x1 := .int .i64 ((a : Nat) : Int)) (x2 := .int .i64 ((0 : Nat) : Int)) HZR.out
        rw [← hWF] at hzF
        have HWF := Lib.hid hWF
        have v0 := Go.Joins.cell_of_block hzF 0
        have v1 := Go.Joins.cell_of_block hzF 1
        have v2 := Go.Joins.cell_of_block hzF 2
        simp only [List.getElem?_toArray, List.getElem?_cons_zero, List.getElem?_cons_succ] at v0 v1 v2
        clear hWF hWF2 hzF
        refine bodyPost_ret (v := brkV (1, a, 0)) (by simp [results, Tryd.results81, go_sem, v0, v1, v2, brkV]) rfl ⟨by rw [HEQ.out], ?_⟩
        rw [HWF.out]
        exact below_set3 (HBW.out _ HBU.out) (by have := HM.out; omega)
      | false =>
        go_wp2_with fail
        refine (CS.out _ a (K2.out _ hb.out) hlt).mono ?_
        rintro e w3 ⟨rfl, hb3⟩
        rw [hR]
        have HB3 := Lib.hid (hb.out.trans (hb3.mono hb.out.size))
        have HA : Hid (∀ j, j < a + 1 → t.R j j = false) := fun j hj => by
          by_cases e : j = a
          · subst e; exact hR
          · exact hA.out j (by omega)
        clear hb3 k0 k1 k2 k3 hR
        go_wp2
        go_roundw
        case rel => exact ⟨a + 1, by omega, by go_num, HA, HB3⟩
        case measure => simp [intOf]; omega
    · have HA : Hid (∀ j, j < n → t.R j j = false) := fun j hj => hA.out j (by omega)
      clear hA
      go_wp2_with fail
      clear k0 k1 k2 k3
      go_loopw [6] (fun i wr => ∃ a : Nat, a ≤ n ∧ i = .int .i64 a ∧ Hid (∀ j, j < a → bel t.R 0 j = true) ∧ Hid (Below w2.heap.size w2 wr)) (fun i _ => n - (intOf i).toNat)
      case atStart => exact ⟨0, Nat.zero_le _, rfl, fun j hj => by omega, hb⟩
      case round =>
        clear hb hlt han
        obtain ⟨a, han, rfl, hB, hb⟩ := hrel
        by_cases hlt : a < n
        · obtain ⟨b1, o1, e1, q1, q2⟩ := KM.out _ hb.out 0 (by omega)
          have q3 := q2 a hlt
          simp only [Nat.add_zero] at q1
          clear q2
          cases hR : bel t.R 0 a with
          | false =>
            rw [hR] at q3
            have hbA := K2.out _ hb.out
            have HR := Lib.hid hR
            clear hR
            have hzr := (hbA.block _ LZ.out).trans Z.out
            have y0 := Go.Joins.cell_of_block hzr 0; have g0 := Go.Joins.unfrozen_of_block hzr 0
            have y1 := Go.Joins.cell_of_block hzr 1; have g1 := Go.Joins.unfrozen_of_block hzr 1
            have y2 := Go.Joins.cell_of_block hzr 2; have g2 := Go.Joins.unfrozen_of_block hzr 2
            simp only [List.getElem?_toArray, List.getElem?_cons_zero, List.getElem?_cons_succ] at y0 y1 y2
            have HZR := Lib.hid hzr
            have HEQ : Hid (brkF t.R n t.wr = (2, a, 0)) := brk_base HA.out hlt hB.out HR.out
            have HBU : Hid (Below W0.heap.size W0 wr) := hbA
            clear hzr
            go_wp2
            obtain ⟨WF, hWF⟩ : ∃ WF, WF = set3 wr (m + 1) (.int .u8 ((2 : Nat) : Int)) (.int .i64 ((a : Nat) : Int)) (.int .i64 ((0 : Nat) : Int)) := ⟨_, rfl⟩
            have hWF2 := hWF
            unfold set3 at hWF2
            try simp only [Int.cast_ofNat_Int, Int.ofNat_zero, Int.natCast_one, Int.natCast_zero] at hWF2
            rw [← hWF2]
            have hzF := set3_heap (x0 := .int .u8 ((2 : Nat) : Int)) (x1 := .int .i64 ((a : Nat) : Int)) (x2 := .int .i64 ((0 : Nat) : Int)) HZR.out
            rw [← hWF] at hzF
            have HWF := Lib.hid hWF
            have v0 := Go.Joins.cell_of_block hzF 0
            have v1 := Go.Joins.cell_of_block hzF 1
            have v2 := Go.Joins.cell_of_block hzF 2
            simp only [List.getElem?_toArray, List.getElem?_cons_zero, List.getElem?_cons_succ] at v0 v1 v2
            clear hWF hWF2 hzF
            refine bodyPost_ret (v := brkV (2, a, 0)) (by simp [results, Tryd.results81, go_sem, v0, v1, v2, brkV]) rfl ⟨by rw [HEQ.out], ?_⟩
            rw [HWF.out]
            exact below_set3 (HBW.out _ HBU.out) (by have := HM.out; omega)
          | true =>
            rw [hR] at q3
            have HB : Hid (∀ j, j < a + 1 → bel t.R 0 j = true) := fun j hj => by
              by_cases e : j = a
              · subst e; exact hR
              · exact hB.out j (by omega)
            clear hR
            go_wp2
            go_roundw
            case rel => exact ⟨a + 1, by omega, by go_num, HB, hb⟩
            case measure => simp [intOf]; omega
        · have HB : Hid (∀ j, j < n → bel t.R 0 j = true) := fun j hj => hB.out j (by omega)
          clear hB
          go_wp2_with fail
          go_loopw [7] (fun i wr => ∃ a : Nat, a ≤ n ∧ i = .int .i64 a ∧ Hid (∀ x y, x < y → y < n → x < a → (joinO t.R n x y).isSome = true) ∧ Hid (Below w2.heap.size w2 wr)) (fun i _ => n - (intOf i).toNat)
          case atStart => exact ⟨0, Nat.zero_le _, rfl, fun x y _ _ hx => by omega, hb⟩
          case round =>
            clear hb hlt han
            obtain ⟨a, han, rfl, hJ, hb⟩ := hrel
            by_cases hlt : a < n
            · go_wp2_with fail
              go_loopw [8] (fun i wr => ∃ b : Nat, a < b ∧ b ≤ n ∧ i = .int .i64 b ∧ Hid (∀ x y, x < y → y < n → (x < a ∨ x = a ∧ y < b) → (joinO t.R n x y).isSome = true) ∧ Hid (Below w2.heap.size w2 wr)) (fun i _ => n - (intOf i).toNat)
              case atStart => exact ⟨a + 1, by omega, by omega, by go_num, fun x y hxy hy h => hJ.out x y hxy hy (by omega), hb⟩
              case round =>
                clear hb hJ
                obtain ⟨b, hab, hbn, rfl, hJ, hb⟩ := hrel
                by_cases hlt2 : b < n
                · go_wp2_with fail
                  refine (bounds_any t.R n a b _ _ (HV.out.below hb.out) n12 hlt hlt2).mono ?_
                  rintro e w3 ⟨vl, rfl, hl, hb3⟩
                  have hup : bothF t.R a b n = ups t.R n [a, b] := both_ups _ _ _ _
                  have hlen := both_len t.R a b n
                  have HLT : Hid (∀ j, j < (bothF t.R a b n).length → (bothF t.R a b n).getD j 0 < n) := fun j hj => by
                    have : (bothF t.R a b n).getD j 0 ∈ bothF t.R a b n := by simp [List.getD_eq_getElem?_getD, hj]
                    exact both_lt this
                  obtain ⟨L, hL⟩ : ∃ L, L = bothF t.R a b n := ⟨_, rfl⟩
                  rw [← hL] at hl hlen HLT hup
                  obtain ⟨pl, cl, rfl⟩ := hl.form
                  rw [intsV_len] at hl ⊢
                  obtain ⟨lm, hlm⟩ : ∃ lm, lm = L.length := ⟨_, rfl⟩
                  rw [← hlm] at hl hlen ⊢
                  have HB3 := Lib.hid (hb.out.trans (hb3.mono hb.out.size))
                  have HJO : Hid (joinO t.R n a b = leastF t.R L) := by show _ = _; unfold joinO; rw [hup]
                  have HL := Lib.hid hl; have HUP := Lib.hid hup; have HLM := Lib.hid hlm
                  clear hb3 hl hup hL hlm
                  by_cases hl0 : lm = 0
                  · have hbA := K2.out _ HB3.out
                    have HL0 := Lib.hid hl0
                    have g9 : ((lm : Int) == 0) = true := by rw [beq_iff_eq]; omega
                    clear hl0
                    have hzr := (hbA.block _ LZ.out).trans Z.out
                    have y0 := Go.Joins.cell_of_block hzr 0; have g0 := Go.Joins.unfrozen_of_block hzr 0
                    have y1 := Go.Joins.cell_of_block hzr 1; have g1 := Go.Joins.unfrozen_of_block hzr 1
                    have y2 := Go.Joins.cell_of_block hzr 2; have g2 := Go.Joins.unfrozen_of_block hzr 2
                    simp only [List.getElem?_toArray, List.getElem?_cons_zero, List.getElem?_cons_succ] at y0 y1 y2
                    have HZR := Lib.hid hzr
                    have HEQ : Hid (brkF t.R n t.wr = (3, a, b)) := by show _ = _; rw [brk_pair2 HA.out HB.out hab hlt2 hJ.out (by have hL0 : L = [] := List.length_eq_zero_iff.1 (by have h1 := HLM.out; have h2 := HL0.out; omega); rw [HJO.out, hL0]; rfl), ← HUP.out, List.length_eq_zero_iff.1 (by have h1 := HLM.out; have h2 := HL0.out; omega : L.length = 0)]; rfl
                    have HBU : Hid (Below W0.heap.size W0 w3) := hbA
                    clear hzr
                    go_wp2
                    obtain ⟨WF, hWF⟩ : ∃ WF, WF = set3 w3 (m + 1) (.int .u8 ((3 : Nat) : Int)) (.int .i64 ((a : Nat) : Int)) (.int .i64 ((b : Nat) : Int)) := ⟨_, rfl⟩
                    have hWF2 := hWF
                    unfold set3 at hWF2
                    try simp only [Int.cast_ofNat_Int, Int.ofNat_zero, Int.natCast_one, Int.natCast_zero] at hWF2
                    rw [← hWF2]
                    have hzF := set3_heap (x0 := .int .u8 ((3 : Nat) : Int)) (x1 := .int .i64 ((a : Nat) : Int)) (x2 := .int .i64 ((b : Nat) : Int)) HZR.out
                    rw [← hWF] at hzF
                    have HWF := Lib.hid hWF
                    have v0 := Go.Joins.cell_of_block hzF 0
                    have v1 := Go.Joins.cell_of_block hzF 1
                    have v2 := Go.Joins.cell_of_block hzF 2
                    simp only [List.getElem?_toArray, List.getElem?_cons_zero, List.getElem?_cons_succ] at v0 v1 v2
                    clear hWF hWF2 hzF
                    refine bodyPost_ret (v := brkV (3, a, b)) (by simp [results, Tryd.results81, go_sem, v0, v1, v2, brkV]) rfl ⟨by rw [HEQ.out], ?_⟩
                    rw [HWF.out]
                    exact below_set3 (HBW.out _ HBU.out) (by have := HM.out; omega)
                  · have g9 : ((lm : Int) == 0) = false := by rw [beq_eq_false_iff_ne]; omega
                    clear hl0
                    go_wp2_with fail
                    refine (least_ref t.R n L _ _ _ (HV.out.below HB3.out) n12 HL.out (by have := HLM.out; omega) HLT.out).mono ?_
                    rintro e w4 ⟨rfl, hb4⟩
                    have HB4 := Lib.hid (HB3.out.trans (hb4.mono HB3.out.size))
                    clear hb4
                    have hlI := @least_none t.R L
                    obtain ⟨li, hli⟩ : ∃ li, li = leastI t.R L := ⟨_, rfl⟩
                    rw [← hli] at hlI ⊢
                    cases hs : (leastF t.R L).isSome with
                    | false =>
                      rw [hs] at hlI
                      have g8 : decide (li < 0) = true := hlI
                      have hbA := K2.out _ HB4.out
                      have HSS := Lib.hid hs
                      have HG9 := Lib.hid g9
                      clear hlI hli hs g9
                      have hzr := (hbA.block _ LZ.out).trans Z.out
                      have y0 := Go.Joins.cell_of_block hzr 0; have g0 := Go.Joins.unfrozen_of_block hzr 0
                      have y1 := Go.Joins.cell_of_block hzr 1; have g1 := Go.Joins.unfrozen_of_block hzr 1
                      have y2 := Go.Joins.cell_of_block hzr 2; have g2 := Go.Joins.unfrozen_of_block hzr 2
                      simp only [List.getElem?_toArray, List.getElem?_cons_zero, List.getElem?_cons_succ] at y0 y1 y2
                      have HZR := Lib.hid hzr
                      have HEQ : Hid (brkF t.R n t.wr = (4, a, b)) := by show _ = _; rw [brk_pair2 HA.out HB.out hab hlt2 hJ.out (by rw [HJO.out]; exact HSS.out), ← HUP.out, if_neg]; intro he; have hL0 := List.isEmpty_iff.1 he; have h1 := HLM.out; rw [hL0] at h1; have h2 := HG9.out; rw [h1] at h2; simp at h2
                      have HBU : Hid (Below W0.heap.size W0 w4) := hbA
                      clear hzr
                      go_wp2
                      obtain ⟨WF, hWF⟩ : ∃ WF, WF = set3 w4 (m + 1) (.int .u8 ((4 : Nat) : Int)) (.int .i64 ((a : Nat) : Int)) (.int .i64 ((b : Nat) : Int)) := ⟨_, rfl⟩
                      have hWF2 := hWF
                      unfold set3 at hWF2
                      try simp only [Int.cast_ofNat_Int, Int.ofNat_zero, Int.natCast_one, Int.natCast_zero] at hWF2
                      rw [← hWF2]
                      have hzF := set3_heap (x0 := .int .u8 ((4 : Nat) : Int)) (x1 := .int .i64 ((a : Nat) : Int)) (x2 := .int .i64 ((b : Nat) : Int)) HZR.out
                      rw [← hWF] at hzF
                      have HWF := Lib.hid hWF
                      have v0 := Go.Joins.cell_of_block hzF 0
                      have v1 := Go.Joins.cell_of_block hzF 1
                      have v2 := Go.Joins.cell_of_block hzF 2
                      simp only [List.getElem?_toArray, List.getElem?_cons_zero, List.getElem?_cons_succ] at v0 v1 v2
                      clear hWF hWF2 hzF
                      refine bodyPost_ret (v := brkV (4, a, b)) (by simp [results, Tryd.results81, go_sem, v0, v1, v2, brkV]) rfl ⟨by rw [HEQ.out], ?_⟩
                      rw [HWF.out]
                      exact below_set3 (HBW.out _ HBU.out) (by have := HM.out; omega)
                    | true =>
                      rw [hs] at hlI
                      have g8 : decide (li < 0) = false := hlI
                      have HJ2 : Hid (∀ x y, x < y → y < n → (x < a ∨ x = a ∧ y < b + 1) → (joinO t.R n x y).isSome = true) := fun x y hxy hy h => by
                        by_cases e : x = a ∧ y = b
                        · obtain ⟨rfl, rfl⟩ := e; rw [HJO.out]; exact hs
                        · exact hJ.out x y hxy hy (by omega)
                      clear hlI hli hs g9
                      go_wp2
                      go_roundw
                      case rel => exact ⟨b + 1, by omega, by omega, by go_num, HJ2, HB4⟩
                      case measure => simp [intOf]; omega
                · have HJ2 : Hid (∀ x y, x < y → y < n → x < a + 1 → (joinO t.R n x y).isSome = true) := fun x y hxy hy h => hJ.out x y hxy hy (by omega)
                  clear hJ
                  go_wp2
                  go_roundw
                  case rel => exact ⟨a + 1, by omega, by go_num, HJ2, hb⟩
                  case measure => simp [intOf]; omega
            · have HJ : Hid (∀ x y, x < y → y < n → (joinO t.R n x y).isSome = true) := fun x y hxy hy => hJ.out x y hxy hy (by omega)
              have HRS : Hid (brkF t.R n t.wr = wbF t.R n t.wr) := brk_rest2 HA.out HB.out HJ.out
              clear hJ
              obtain ⟨k0, k1, k2, k3⟩ := KS.out _ (K2.out _ hb.out)
              have kw0 := KW.out _ (K2.out _ hb.out) 0 (by omega)
              simp only [Nat.add_zero] at kw0
              cases hw0 : t.wr 0 with
              | true =>
                rw [hw0] at kw0
                have hbA := K2.out _ hb.out
                have HW0R := Lib.hid hw0
                clear hw0
                have hzr := (hbA.block _ LZ.out).trans Z.out
                have y0 := Go.Joins.cell_of_block hzr 0; have g0 := Go.Joins.unfrozen_of_block hzr 0
                have y1 := Go.Joins.cell_of_block hzr 1; have g1 := Go.Joins.unfrozen_of_block hzr 1
                have y2 := Go.Joins.cell_of_block hzr 2; have g2 := Go.Joins.unfrozen_of_block hzr 2
                simp only [List.getElem?_toArray, List.getElem?_cons_zero, List.getElem?_cons_succ] at y0 y1 y2
                have HZR := Lib.hid hzr
                have HEQ : Hid (brkF t.R n t.wr = (5, 0, 0)) := by show _ = _; rw [HRS.out]; unfold wbF; rw [HW0R.out]; rfl
                have HBU : Hid (Below W0.heap.size W0 wr) := hbA
                clear hzr
                go_wp2
                obtain ⟨WF, hWF⟩ : ∃ WF, WF = set3 wr (m + 1) (.int .u8 ((5 : Nat) : Int)) (.int .i64 ((0 : Nat) : Int)) (.int .i64 ((0 : Nat) : Int)) := ⟨_, rfl⟩
                have hWF2 := hWF
                unfold set3 at hWF2
                try simp only [Int.cast_ofNat_Int, Int.ofNat_zero, Int.natCast_one, Int.natCast_zero] at hWF2
                rw [← hWF2]
                have hzF := set3_heap (x0 := .int .u8 ((5 : Nat) : Int)) (x1 := .int .i64 ((0 : Nat) : Int)) (x2 := .int .i64 ((0 : Nat) : Int)) HZR.out
                rw [← hWF] at hzF
                have HWF := Lib.hid hWF
                have v0 := Go.Joins.cell_of_block hzF 0
                have v1 := Go.Joins.cell_of_block hzF 1
                have v2 := Go.Joins.cell_of_block hzF 2
                simp only [List.getElem?_toArray, List.getElem?_cons_zero, List.getElem?_cons_succ] at v0 v1 v2
                clear hWF hWF2 hzF
                refine bodyPost_ret (v := brkV (5, 0, 0)) (by simp [results, Tryd.results81, go_sem, v0, v1, v2, brkV]) rfl ⟨by rw [HEQ.out], ?_⟩
                rw [HWF.out]
                exact below_set3 (HBW.out _ HBU.out) (by have := HM.out; omega)
              | false =>
                rw [hw0] at kw0
                have HWB : Hid (brkF t.R n t.wr = match wrongF t.R n t.wr with | some p => (5, p.1, p.2) | none => (0, 0, 0)) := by show _ = _; rw [HRS.out]; unfold wbF; rw [hw0]; rfl
                clear hw0
                go_wp2_with fail
                clear k0 k1 k2 k3 kw0
                go_loopw [10] (fun i wr => ∃ a : Nat, a ≤ n ∧ i = .int .i64 a ∧ Hid (∀ x y, x < n → y < n → x < a → badW t.R t.wr x y = false) ∧ Hid (Below w2.heap.size w2 wr)) (fun i _ => n - (intOf i).toNat)
                case atStart => exact ⟨0, Nat.zero_le _, rfl, fun x y _ _ hx => by omega, hb⟩
                case round =>
                  clear hb hlt han
                  obtain ⟨a, han, rfl, hW, hb⟩ := hrel
                  by_cases hlt : a < n
                  · go_wp2_with fail
                    go_loopw [11] (fun i wr => ∃ b : Nat, b ≤ n ∧ i = .int .i64 b ∧ Hid (∀ x y, x < n → y < n → (x < a ∨ x = a ∧ y < b) → badW t.R t.wr x y = false) ∧ Hid (Below w2.heap.size w2 wr)) (fun i _ => n - (intOf i).toNat)
                    case atStart => exact ⟨0, by omega, rfl, fun x y hx hy h => hW.out x y hx hy (by omega), hb⟩
                    case round =>
                      clear hb hW
                      obtain ⟨b, hbn, rfl, hW, hb⟩ := hrel
                      by_cases hlt2 : b < n
                      · obtain ⟨k0, k1, k2, k3⟩ := KS.out _ (K2.out _ hb.out)
                        have kwa := KW.out _ (K2.out _ hb.out) a hlt
                        have kwb := KW.out _ (K2.out _ hb.out) b hlt2
                        obtain ⟨b1, o1, e1, q1, q2⟩ := KM.out _ hb.out a hlt
                        have q3 := q2 b hlt2
                        clear q2 k0 k1 k2
                        have HNX : Hid (badW t.R t.wr a b = false → ∀ x y, x < n → y < n → (x < a ∨ x = a ∧ y < b + 1) → badW t.R t.wr x y = false) := fun hbad x y hx hy h => by
                          by_cases e : x = a ∧ y = b
                          · obtain ⟨rfl, rfl⟩ := e; exact hbad
                          · exact hW.out x y hx hy (by omega)
                        cases ha' : t.wr a with
                        | false =>
                          rw [ha'] at kwa
                          have HW2 := Lib.hid (HNX.out (by unfold badW; rw [ha']; rfl))
                          clear ha'
                          go_wp2
                          go_roundw
                          case rel => exact ⟨b + 1, by omega, by go_num, HW2, hb⟩
                          case measure => simp [intOf]; omega
                        | true =>
                          rw [ha'] at kwa
                          cases hb' : t.wr b with
                          | true =>
                            rw [hb'] at kwb
                            have HW2 := Lib.hid (HNX.out (by unfold badW; rw [ha', hb']; rfl))
                            clear ha' hb'
                            go_wp2
                            go_roundw
                            case rel => exact ⟨b + 1, by omega, by go_num, HW2, hb⟩
                            case measure => simp [intOf]; omega
                          | false =>
                            rw [hb'] at kwb
                            cases hr' : bel t.R a b with
                            | false =>
                              rw [hr'] at q3
                              have HW2 := Lib.hid (HNX.out (by unfold badW; rw [ha', hb', hr']; rfl))
                              clear ha' hb' hr'
                              go_wp2
                              go_roundw
                              case rel => exact ⟨b + 1, by omega, by go_num, HW2, hb⟩
                              case measure => simp [intOf]; omega
                            | true =>
                              rw [hr'] at q3
                              have HBAD : Hid (badW t.R t.wr a b = true) := by show _ = _; unfold badW; rw [ha', hb', hr']; rfl
                              have hbA := K2.out _ hb.out
                              clear ha' hb' hr'
                              have hzr := (hbA.block _ LZ.out).trans Z.out
                              have y0 := Go.Joins.cell_of_block hzr 0; have g0 := Go.Joins.unfrozen_of_block hzr 0
                              have y1 := Go.Joins.cell_of_block hzr 1; have g1 := Go.Joins.unfrozen_of_block hzr 1
                              have y2 := Go.Joins.cell_of_block hzr 2; have g2 := Go.Joins.unfrozen_of_block hzr 2
                              simp only [List.getElem?_toArray, List.getElem?_cons_zero, List.getElem?_cons_succ] at y0 y1 y2
                              have HZR := Lib.hid hzr
                              have HEQ : Hid (brkF t.R n t.wr = (5, a, b)) := by show _ = _; rw [HWB.out, wrong_some hlt hlt2 HBAD.out hW.out]
                              have HBU : Hid (Below W0.heap.size W0 wr) := hbA
                              clear hzr
                              go_wp2
                              obtain ⟨WF, hWF⟩ : ∃ WF, WF = set3 wr (m + 1) (.int .u8 ((5 : Nat) : Int)) (.int .i64 ((a : Nat) : Int)) (.int .i64 ((b : Nat) : Int)) := ⟨_, rfl⟩
                              have hWF2 := hWF
                              unfold set3 at hWF2
                              try simp only [Int.cast_ofNat_Int, Int.ofNat_zero, Int.natCast_one, Int.natCast_zero] at hWF2
                              rw [← hWF2]
                              have hzF := set3_heap (x0 := .int .u8 ((5 : Nat) : Int)) (x1 := .int .i64 ((a : Nat) : Int)) (x2 := .int .i64 ((b : Nat) : Int)) HZR.out
                              rw [← hWF] at hzF
                              have HWF := Lib.hid hWF
                              have v0 := Go.Joins.cell_of_block hzF 0
                              have v1 := Go.Joins.cell_of_block hzF 1
                              have v2 := Go.Joins.cell_of_block hzF 2
                              simp only [List.getElem?_toArray, List.getElem?_cons_zero, List.getElem?_cons_succ] at v0 v1 v2
                              clear hWF hWF2 hzF
                              refine bodyPost_ret (v := brkV (5, a, b)) (by simp [results, Tryd.results81, go_sem, v0, v1, v2, brkV]) rfl ⟨by rw [HEQ.out], ?_⟩
                              rw [HWF.out]
                              exact below_set3 (HBW.out _ HBU.out) (by have := HM.out; omega)
                      · have HW2 : Hid (∀ x y, x < n → y < n → x < a + 1 → badW t.R t.wr x y = false) := fun x y hx hy h => hW.out x y hx hy (by omega)
                        clear hW
                        go_wp2
                        go_roundw
                        case rel => exact ⟨a + 1, by omega, by go_num, HW2, hb⟩
                        case measure => simp [intOf]; omega
                  · have hbA := K2.out _ hb.out
                    have hzr := (hbA.block _ LZ.out).trans Z.out
                    have y0 := Go.Joins.cell_of_block hzr 0; have g0 := Go.Joins.unfrozen_of_block hzr 0
                    have y1 := Go.Joins.cell_of_block hzr 1; have g1 := Go.Joins.unfrozen_of_block hzr 1
                    have y2 := Go.Joins.cell_of_block hzr 2; have g2 := Go.Joins.unfrozen_of_block hzr 2
                    simp only [List.getElem?_toArray, List.getElem?_cons_zero, List.getElem?_cons_succ] at y0 y1 y2
                    have HZR := Lib.hid hzr
                    have HEQ : Hid (brkF t.R n t.wr = (0, 0, 0)) := by show _ = _; rw [HWB.out, wrong_none fun x y hx hy => hW.out x y hx hy (by omega)]
                    have HBU : Hid (Below W0.heap.size W0 wr) := hbA
                    clear hzr
                    go_wp2
                    obtain ⟨WF, hWF⟩ : ∃ WF, WF = set3 wr (m + 1) (.int .u8 ((0 : Nat) : Int)) (.int .i64 ((0 : Nat) : Int)) (.int .i64 ((0 : Nat) : Int)) := ⟨_, rfl⟩
                    have hWF2 := hWF
                    unfold set3 at hWF2
                    try simp only [Int.cast_ofNat_Int, Int.ofNat_zero, Int.natCast_one, Int.natCast_zero] at hWF2
                    rw [← hWF2]
                    have hzF := set3_heap (x0 := .int .u8 ((0 : Nat) : Int)) (x1 := .int .i64 ((0 : Nat) : Int)) (x2 := .int .i64 ((0 : Nat) : Int)) HZR.out
                    rw [← hWF] at hzF
                    have HWF := Lib.hid hWF
                    have v0 := Go.Joins.cell_of_block hzF 0
                    have v1 := Go.Joins.cell_of_block hzF 1
                    have v2 := Go.Joins.cell_of_block hzF 2
                    simp only [List.getElem?_toArray, List.getElem?_cons_zero, List.getElem?_cons_succ] at v0 v1 v2
                    clear hWF hWF2 hzF
                    refine bodyPost_ret (v := brkV (0, 0, 0)) (by simp [results, Tryd.results81, go_sem, v0, v1, v2, brkV]) rfl ⟨by rw [HEQ.out], ?_⟩
                    rw [HWF.out]
                    exact below_set3 (HBW.out _ HBU.out) (by have := HM.out; omega)
end Go.Proofs.YtfhnigpjmljhbaaDoor.Or
