/- Joins in a lattice; the law's own join; what the laws about lattices call. -/
import Derived.Test.YtmooikdodbjgpaaDoorOrFf
import Derived.Test.YtmooikdodbjgpaaDoorOrBk
import Derived.Test.YtmooikdodbjgpaaDoorOrAi
import Derived.Deep.Quiet
set_option linter.unusedVariables false
set_option linter.unusedSimpArgs false
namespace Go.Proofs.YtmooikdodbjgpaaDoor.Or
open Go.RowKit Go.Shelf

/-- The join, in a lattice. -/
def jn (R : Nat → Nat → Bool) (n a b : Nat) : Nat := (joinO R n a b).getD 0
theorem jn_spec {R : Nat → Nat → Bool} {n : Nat} {wr : Nat → Bool} (hL : Lat R n wr) (hA : Acy R n) {a b : Nat} (ha : a < n) (hb : b < n) :
    jn R n a b < n ∧ bel R a (jn R n a b) = true ∧ bel R b (jn R n a b) = true ∧ ∀ c, c < n → bel R a c = true → bel R b c = true → bel R (jn R n a b) c = true := by
  obtain ⟨j, hj, h1, h2, h3⟩ := hL.joins hA ha hb
  unfold jn
  rw [hj]
  refine ⟨h1, h2, h3, fun c hc hac hbc => ?_⟩
  unfold joinO at hj
  exact (least_some hj).2 c (mem_ups.2 ⟨hc, fun x hx => by
    simp only [List.mem_cons, List.not_mem_nil, or_false] at hx
    rcases hx with rfl | rfl
    · exact hac
    · exact hbc⟩)
theorem jn_is {R : Nat → Nat → Bool} {n : Nat} {wr : Nat → Bool} (hL : Lat R n wr) (hA : Acy R n) {a b j : Nat} (ha : a < n) (hb : b < n) (hj : j < n) (h1 : bel R a j = true) (h2 : bel R b j = true) (h3 : ∀ c, c < n → bel R a c = true → bel R b c = true → bel R j c = true) : jn R n a b = j := by
  obtain ⟨s1, s2, s3, s4⟩ := jn_spec hL hA ha hb
  exact bel_anti hA (s4 j hj h1 h2) (h3 _ s1 s2 s3)
theorem jn_self {R : Nat → Nat → Bool} {n : Nat} {wr : Nat → Bool} (hL : Lat R n wr) (hA : Acy R n) {a : Nat} (ha : a < n) : jn R n a a = a :=
  jn_is hL hA ha ha ha (bel_self _ _) (bel_self _ _) fun c _ h _ => h
theorem jn_zero {R : Nat → Nat → Bool} {n : Nat} {wr : Nat → Bool} (hL : Lat R n wr) (hA : Acy R n) {a : Nat} (ha : a < n) : jn R n a 0 = a :=
  jn_is hL hA ha (by omega) ha (bel_self _ _) (hL.base a ha) fun c _ h _ => h
theorem jn_swap (R : Nat → Nat → Bool) (n a b : Nat) : jn R n a b = jn R n b a := by unfold jn; rw [join_swap]
theorem jn_below {R : Nat → Nat → Bool} {n : Nat} {wr : Nat → Bool} (hL : Lat R n wr) (hA : Acy R n) {a b : Nat} (ha : a < n) (hb : b < n) : (jn R n a b == b) = bel R a b := by
  obtain ⟨s1, s2, s3, s4⟩ := jn_spec hL hA ha hb
  cases h : bel R a b with
  | true => rw [beq_iff_eq]; exact jn_is hL hA ha hb hb h (bel_self _ _) fun c _ _ h => h
  | false =>
    rw [beq_eq_false_iff_ne]
    intro e
    rw [e] at s2; rw [s2] at h; cases h
theorem jn_assoc {R : Nat → Nat → Bool} {n : Nat} {wr : Nat → Bool} (hL : Lat R n wr) (hA : Acy R n) {a b c : Nat} (ha : a < n) (hb : b < n) (hc : c < n) : jn R n a (jn R n b c) = jn R n (jn R n a b) c := by
  obtain ⟨s1, s2, s3, s4⟩ := jn_spec hL hA ha hb
  obtain ⟨u1, u2, u3, u4⟩ := jn_spec hL hA hb hc
  obtain ⟨v1, v2, v3, v4⟩ := jn_spec hL hA s1 hc
  refine jn_is hL hA ha u1 v1 (bel_trans hA s2 v2) (u4 _ v1 (bel_trans hA s3 v2) v3) fun d hd h1 h2 => ?_
  exact v4 d hd (s4 d hd h1 (bel_trans hA u2 h2)) (bel_trans hA u3 h2)
theorem wr_up {R : Nat → Nat → Bool} {n : Nat} {wr : Nat → Bool} (hL : Lat R n wr) {a b : Nat} (ha : a < n) (hb : b < n) (h : bel R a b = true) (hw : wr a = true) : wr b = true := by
  have h1 : (wrongL R n).find? (fun p => wr p.1 && !wr p.2) = none := hL.wrong
  rw [List.find?_eq_none] at h1
  have := h1 (a, b) (mem_wrongL.2 ⟨ha, hb, h⟩)
  simp only [hw, Bool.true_and] at this
  cases hb' : wr b with
  | true => rfl
  | false => rw [hb'] at this; simp at this

set_option maxRecDepth 100000 in
set_option maxHeartbeats 4000000 in
theorem isElem_any (t : Tab) (ve va vw : Value) (a : Nat) (w : World) (hT : TabIn w ve va vw t) (hn : t.elems.length ≤ 20) (ha : a < t.elems.length) :
    Calls Tryd.prog 54 #[tabV t ve va vw, .int .i64 a] w fun e w' => e = .returned (.bool true) ∧ Below w.heap.size w w' := by
  obtain ⟨pe, ce, rfl⟩ := hT.e.form
  obtain ⟨pa, ca, rfl⟩ := hT.a.form
  obtain ⟨pw, cw, rfl⟩ := hT.w.form
  obtain ⟨n, hn'⟩ : ∃ n, n = t.elems.length := ⟨_, rfl⟩
  rw [← hn'] at hn ha
  unfold tabV
  rw [← hn']
  have h1 : decide ((a : Int) ≤ (n : Int) - 1) = true := decide_eq_true (by omega)
  clear hT hn'
  go_enter Tryd.func54, Tryd.ntmps54
  go_wp2
  go_ret
  exact ⟨rfl, (Below.refl _ _).alloc (Nat.le_refl _) _⟩
theorem latE_in {t : Tab} (h : latE t [] = 0) {a c : Nat} (ha : a < t.n) (hc : c < t.n) : latE t [(a : Int), (c : Int)] = 0 := by
  obtain ⟨h1, h2, _⟩ := latE_zero h
  unfold latE; rw [h1, h2]
  simp only [if_true]
  rw [if_pos]
  simp [inF]; omega

set_option maxRecDepth 100000 in
set_option maxHeartbeats 4000000 in
theorem lawJoin_any (t : Tab) (ve va vw : Value) (a c : Nat) (w : World) (hT : TabIn w ve va vw t) (hl : latE t [] = 0) (hL : LaidOk w) (ha : a < t.n) (hc : c < t.n) :
    Calls Tryd.prog 52 #[tabV t ve va vw, .int .i64 a, .int .i64 c] w fun e w' => e = .returned (.int .i64 (jn t.R t.n a c : Nat)) ∧ Below w.heap.size w w' := by
  obtain ⟨hf, hlat, _⟩ := latE_zero hl
  obtain ⟨f1, f2, f3, f4⟩ := frm_len hf
  have hjn := (jn_spec (latF_lat hlat) (frm_acy hf (latF_lat hlat)) ha hc).1
  have CC : Hid (∀ W ve va vw, TabIn W ve va vw t → Calls Tryd.prog 17 #[tabV t ve va vw] W fun e w' => ∃ ve' va' vw', e = .returned (tabV t ve' va' vw') ∧ TabIn w' ve' va' vw' t ∧ Below W.heap.size W w') := fun W ve va vw h => copy_any t ve va vw W h (by omega) (by omega) (by omega) (frm_rows hf)
  have CB : Hid (∀ W ve va vw, TabIn W ve va vw t → Below w.heap.size w W → Calls Tryd.prog 28 #[tabV t ve va vw, .int .i64 a, .int .i64 c] W fun e w' => e = .returned (.tuple #[.int .i64 (jn t.R t.n a c : Nat), .int .i64 0]) ∧ Below W.heap.size W w') := fun W ve va vw h hb => by
    refine (Join_any t ve va vw a c W h (frm_small hf) (hL.below hb)).mono ?_
    rintro e w' ⟨rfl, hb⟩
    refine ⟨?_, hb⟩
    rw [latE_in hl ha hc, if_pos rfl]; rfl
  obtain ⟨W2, hW2⟩ : ∃ W2, W2 = (w.alloc (Obj.cells #[.string (mkS t.name), ve, va, vw] 26)) := ⟨_, rfl⟩
  have b2 : Below w.heap.size w W2 := by rw [hW2]; exact (Below.refl _ _).alloc (Nat.le_refl _) _
  have c0 : W2.cell? ⟨w.heap.size, 0, none⟩ = some (.string (mkS t.name)) := by rw [hW2]; simp [go_sem]
  have c1 : W2.cell? ⟨w.heap.size, 1, none⟩ = some ve := by rw [hW2]; simp [go_sem]
  have c2 : W2.cell? ⟨w.heap.size, 2, none⟩ = some va := by rw [hW2]; simp [go_sem]
  have c3 : W2.cell? ⟨w.heap.size, 3, none⟩ = some vw := by rw [hW2]; simp [go_sem]
  have HT2 := Lib.hid (hT.below b2)
  have HW2 := Lib.hid hW2; have HB2 := Lib.hid b2
  obtain ⟨x, hx⟩ : ∃ x, x = jn t.R t.n a c := ⟨_, rfl⟩
  have CI : Hid (∀ W, Below w.heap.size w W → Calls Tryd.prog 54 #[tabV t ve va vw, .int .i64 x] W fun e w' => e = .returned (.bool true) ∧ Below W.heap.size W w') := fun W hb => isElem_any t ve va vw x W (hT.below hb) (by omega) (by rw [hx]; exact hjn)
  obtain ⟨pe, ce, rfl⟩ := hT.e.form
  obtain ⟨pa, ca, rfl⟩ := hT.a.form
  obtain ⟨pw, cw, rfl⟩ := hT.w.form
  rw [← hx] at CB ⊢
  clear hT hf hL ha hc hW2 b2 f1 f2 f3 f4 hx hjn hl hlat
  unfold tabV at CC CB CI ⊢
  go_enter Tryd.func52, Tryd.ntmps52
  go_wp2_with fail
  rw [← HW2.out]
  refine (CC.out W2 _ _ _ HT2.out).mono ?_
  rintro e w1 ⟨ve', va', vw', rfl, hT1, hb⟩
  have HB1 := Lib.hid (HB2.out.trans (hb.mono HB2.out.size))
  have HT1 := Lib.hid hT1
  have d0 := (hb.cell (cell_lt c0)).trans c0
  have d1 := (hb.cell (cell_lt c1)).trans c1
  have d2 := (hb.cell (cell_lt c2)).trans c2
  have d3 := (hb.cell (cell_lt c3)).trans c3
  clear hb hT1 c0 c1 c2 c3
  go_wp2_with fail
  refine (CB.out w1 _ _ _ HT1.out HB1.out).mono ?_
  rintro e w3 ⟨rfl, hb⟩
  have HB3 := Lib.hid (HB1.out.trans (hb.mono HB1.out.size))
  have c0 := (hb.cell (cell_lt d0)).trans d0
  have c1 := (hb.cell (cell_lt d1)).trans d1
  have c2 := (hb.cell (cell_lt d2)).trans d2
  have c3 := (hb.cell (cell_lt d3)).trans d3
  clear hb d0 d1 d2 d3
  go_wp2_with fail
  refine (CI.out w3 HB3.out).mono ?_
  rintro e w4 ⟨rfl, hb⟩
  have HB4 := Lib.hid (HB3.out.trans (hb.mono HB3.out.size))
  clear hb c0 c1 c2 c3
  go_wp2
  go_ret
  exact ⟨rfl, HB4.out⟩

/-- A region that draws its order, whose operations read, and whose callees make blocks alone: one walk, in the text's order. -/
theorem wp_region_below {P : Program} {id : Nat} {Q : Exit → Act → World → Prop} {a : Act} {w : World} {l : List Oper} (B : Nat) (W0 : World) (hm : P.follows .mixedOrders = true) (hB : Region.lexB .any l.toArray = true) (hC : Below B W0 w)
    (h : wpQuiet P l.toArray (fun V => Below B W0 V) (fun a' => ∀ w', Below B W0 w' → Q .normal a' w') l a) : (Code.region id l.toArray true).wp P Q a w :=
  wp_region_quiet (C := fun V => Below B W0 V) hm hB hC.drew (by simpa using h)
theorem quiet_yes {P : Program} {o : Oper} {ops : Array Oper} {a : Act} {C : World → Prop} {K : Act → Prop} (hw : Region.wanted o (yielded ops a.tmps) = true) (v : Value) (h : ∀ V, C V → o.quietAt P a C V v) (hK : K (a.put o.dst v)) : if Region.wanted o (yielded ops a.tmps) then o.quiet P a C K else K (a.put o.dst undef) := by
  rw [if_pos hw]; exact ⟨v, h, hK⟩
theorem quiet_no {P : Program} {o : Oper} {ops : Array Oper} {a : Act} {C : World → Prop} {K : Act → Prop} (hw : Region.wanted o (yielded ops a.tmps) = false) (hK : K (a.put o.dst undef)) : if Region.wanted o (yielded ops a.tmps) then o.quiet P a C K else K (a.put o.dst undef) := by
  rw [hw]; exact hK
/-- What the laws about lattices call, in every world behind the one in which the table came. -/
structure LatCalls (t : Tab) (ve va vw : Value) (w : World) : Prop where
  tab : ∀ W, Below w.heap.size w W → TabIn W ve va vw t
  laid : ∀ W, Below w.heap.size w W → LaidOk W
  right : ∀ W, Below w.heap.size w W → Calls Tryd.prog 51 #[tabV t ve va vw] W fun e w' => e = .returned (.bool (thinF t && decide (latE t [] = 0))) ∧ Below W.heap.size W w'
  awake : ∀ W, Below w.heap.size w W → Calls Tryd.prog 16 #[] W fun e w' => e = .returned (.bool true) ∧ Below W.heap.size W w'
  join : latE t [] = 0 → ∀ W (a c : Nat), Below w.heap.size w W → a < t.n → c < t.n → Calls Tryd.prog 52 #[tabV t ve va vw, .int .i64 a, .int .i64 c] W fun e w' => e = .returned (.int .i64 (jn t.R t.n a c : Nat)) ∧ Below W.heap.size W w'
  below : latE t [] = 0 → ∀ W (a c : Nat), Below w.heap.size w W → a < t.n → c < t.n → Calls Tryd.prog 53 #[tabV t ve va vw, .int .i64 a, .int .i64 c] W fun e w' => e = .returned (.bool (bel t.R a c)) ∧ Below W.heap.size W w'
theorem lat_calls (HJ : JoinOk) (t : Tab) (ve va vw : Value) (w : World) (hT : TabIn w ve va vw t) (hnm : t.name.length ≤ 281474976710656) (hL : LaidOk w) : LatCalls t ve va vw w where
  tab := fun W h => hT.below h
  laid := fun W h => hL.below h
  right := fun W h => right_any t ve va vw W (hT.below h) hnm
  awake := fun W h => awake_any HJ W (hL.below h)
  join := fun hl W a c h ha hc => lawJoin_any t ve va vw a c W (hT.below h) hl (hL.below h) ha hc
  below := fun hl W a c h ha hc => lawBelow_any t ve va vw a c W (hT.below h) (latE_zero hl).1 (hL.below h) ha hc
end Go.Proofs.YtmooikdodbjgpaaDoor.Or
