import Derived.Test.YtfhnigpjmljhbaaDoorOrNa
import Derived.OwnWalkIn
import Derived.TacticsInMore
import Derived.LoopNIn
import Derived.LoopIn
/- Contracts of groups: one, has, the lowest bit, the iterator. -/
set_option linter.unusedVariables false
set_option linter.unusedSimpArgs false
namespace Go.Proofs.YtfhnigpjmljhbaaDoor.Or
open Go.RowKit Go.Shelf
attribute [local go_sem] Oper.semAt_some

theorem and_pow_ne (g a : Nat) : ((g &&& 2 ^ a) != 0) = g.testBit a := by
  cases h : g.testBit a with
  | true =>
    rw [bne_iff_ne]
    intro h0
    have := Nat.testBit_and g (2 ^ a) a
    rw [h0, h, Nat.testBit_two_pow] at this
    simp at this
  | false =>
    rw [bne_eq_false_iff_eq]
    refine Nat.eq_of_testBit_eq fun i => ?_
    rw [Nat.testBit_and, Nat.testBit_two_pow]
    by_cases e : a = i
    · subst e; rw [h]; simp
    · simp [e]

set_option maxHeartbeats 800000 in
theorem one_any (a : Nat) (w : World) (ha : a < 16) :
    Calls Tryd.prog 82 #[.int .i64 a] w fun e w' => e = .returned (.int .u16 ((2 ^ a : Nat) : Int)) ∧ w = w' := by
  have h : a = 0 ∨ a = 1 ∨ a = 2 ∨ a = 3 ∨ a = 4 ∨ a = 5 ∨ a = 6 ∨ a = 7 ∨ a = 8 ∨ a = 9 ∨ a = 10 ∨ a = 11 ∨ a = 12 ∨ a = 13 ∨ a = 14 ∨ a = 15 := by omega
  rcases h with rfl | rfl | rfl | rfl | rfl | rfl | rfl | rfl | rfl | rfl | rfl | rfl | rfl | rfl | rfl | rfl
  all_goals
    go_enter Tryd.func82, Tryd.ntmps82
    go_wp2
    go_ret
    exact ⟨rfl, rfl⟩
set_option maxHeartbeats 800000 in
theorem has_any (g a : Nat) (w : World) (hg : g < 65536) (ha : a < 16) :
    Calls Tryd.prog 65 #[.int .u16 g, .int .i64 a] w fun e w' => e = .returned (.bool (g.testBit a)) ∧ w = w' := by
  obtain ⟨p, hp⟩ : ∃ p, p = 2 ^ a := ⟨_, rfl⟩
  have hpl : p < 65536 := by rw [hp]; exact Nat.pow_lt_pow_right (a := 2) (m := a) (n := 16) (by decide) ha
  have CO : Hid (∀ W, Calls Tryd.prog 82 #[.int .i64 a] W fun e w' => e = .returned (.int .u16 (p : Int)) ∧ W = w') := fun W => by rw [hp]; exact one_any a W ha
  have hb := bits16_and g p hg hpl
  obtain ⟨x, hx⟩ : ∃ x, x = g &&& p := ⟨_, rfl⟩
  rw [← hx] at hb
  have hr : (((x : Nat) : Int) != 0) = g.testBit a := by
    have e : (((x : Nat) : Int) != 0) = (x != 0) := by rw [Bool.eq_iff_iff, bne_iff_ne, bne_iff_ne]; omega
    rw [e, hx, hp, and_pow_ne]
  have HR := Lib.hid hr
  clear hr hx hp hpl hg ha
  go_enter Tryd.func65, Tryd.ntmps65
  go_wp2_with fail
  refine (CO.out _).mono ?_
  rintro e w' ⟨rfl, rfl⟩
  go_wp2
  go_ret
  exact ⟨ret_bool HR.out, rfl⟩

/-- The table of bits. -/
def TabOk (w : World) : Prop := ∀ i, i < 32 → w.cell? ⟨1, i, none⟩ = some (.int .u8 (bruijnL.getD i 0))
theorem neg16 (x : Nat) (hx : 0 < x) (h : x < 65536) : IntKind.u16.wrap (-(x : Int)) = ((65536 - x : Nat) : Int) := by
  simp [IntKind.wrap, IntKind.bits, IntKind.signed]; omega
theorem tz_tab : ∀ t, t < 16 → (2 ^ t * 125613361) % 4294967296 / 134217728 < 32 ∧ bruijnL.getD ((2 ^ t * 125613361) % 4294967296 / 134217728) 0 = t := by decide

set_option maxRecDepth 100000 in
set_option maxHeartbeats 2000000 in
theorem tz_any (t q : Nat) (w : World) (h : 2 ^ t * (2 * q + 1) < 65536) (hL : TabOk w) :
    Calls Tryd.prog 113 #[.int .u16 ((2 ^ t * (2 * q + 1) : Nat) : Int)] w fun e w' => e = .returned (.int .i64 t) ∧ w = w' := by
  have ht := low_t h
  have hn := low_neg h
  obtain ⟨g, hg⟩ : ∃ g, g = 2 ^ t * (2 * q + 1) := ⟨_, rfl⟩
  rw [← hg] at h hn ⊢
  have hpos : 0 < g := by rw [hg]; exact Nat.mul_pos (Nat.pow_pos (by decide)) (by omega)
  have e1 := neg16 g hpos h
  have e2 : bits .and .u16 (g : Int) ((65536 - g : Nat) : Int) = ((2 ^ t : Nat) : Int) := by
    rw [bits16_and _ _ h (by omega), hn]
  have g0 : ((g : Int) == 0) = false := by rw [beq_eq_false_iff_ne]; omega
  have g0' : ¬ g = 0 := by omega
  obtain ⟨m, hm⟩ : ∃ m, m = 65536 - g := ⟨_, rfl⟩
  rw [← hm] at e1 e2
  obtain ⟨i1, i2⟩ := tz_tab t ht
  have hc := hL _ i1
  rw [i2] at hc
  clear hm hpos hn hg hL i1 i2 h
  have hh : t = 0 ∨ t = 1 ∨ t = 2 ∨ t = 3 ∨ t = 4 ∨ t = 5 ∨ t = 6 ∨ t = 7 ∨ t = 8 ∨ t = 9 ∨ t = 10 ∨ t = 11 ∨ t = 12 ∨ t = 13 ∨ t = 14 ∨ t = 15 := by omega
  clear ht
  rcases hh with rfl | rfl | rfl | rfl | rfl | rfl | rfl | rfl | rfl | rfl | rfl | rfl | rfl | rfl | rfl | rfl
  all_goals
    simp only [Nat.reducePow, Nat.reduceMul, Nat.reduceMod, Nat.reduceDiv] at hc e2
    go_enter Tryd.func113, Tryd.ntmps113
    go_wp2
    go_ret
    exact ⟨rfl, rfl⟩

theorem each_any (g : Nat) (w : World) :
    Calls Tryd.prog 80 #[.int .u16 g] w fun e w' => e = .returned (.func (.func 112) #[] #[.pointer (some ⟨w.heap.size, 0, none⟩)]) ∧ w' = w.alloc (.cells #[.int .u16 g] 72) := by
  go_enter Tryd.func80, Tryd.ntmps80
  go_wp2
  go_ret
  exact ⟨rfl, rfl⟩

/-- The block of the table of bits. -/
def TabZ (_ : World) (k : Nat) : Prop := k = 1
theorem TabOk.lt {w : World} (h : TabOk w) : 1 < w.heap.size := cell_lt (h 0 (by decide))
theorem TabOk.block {w w' : World} (h : TabOk w) (hb : w'.heap[1]? = w.heap[1]?) : TabOk w' := fun i hi => (World.cell?_of_block (w := w) hb).trans (h i hi)

set_option maxRecDepth 100000 in
set_option maxHeartbeats 4000000 in
theorem each_iter (n : Nat) (hn : 1 ≤ n) (bg g : Nat) (w : World) (hg : g < 65536) (hc : w.cell? ⟨bg, 0, none⟩ = some (.int .u16 g)) (hL : TabOk w) :
    IterS Fence.wide n Tryd.prog 112 #[.pointer (some ⟨bg, 0, none⟩)] (fun x : Nat => #[Value.int .i64 x]) (elems g 16) (fun _ _ => False) TabZ w := by
  intro l J Jx W hW hJ hJx hY h0
  have hb := cell_lt hc
  have d := (hW.cell hb).trans hc
  have hT : Hid (TabOk W) := hL.block (hW.block _ hL.lt)
  have HY := Lib.hid hY; have HJ := Lib.hid hJ; have HJX := Lib.hid hJx
  clear hY hJ hJx hc hL
  refine callsIn_of_wp Tryd.func112 rfl trivial ?_ rfl
  simp only [Tryd.ntmps112, List.size_toArray, List.length_cons, List.length_nil, Nat.reduceAdd, Nat.reduceSub, Array.replicate_succ, Array.replicate_zero, List.push_toArray, List.append_toArray, List.nil_append, List.cons_append]
  gi_wp2
  gi_loopw [3] (fun r wr => ∃ (pre : List Nat) (x : Nat), r = .int .u16 x ∧ x < 65536 ∧ Hid (elems g 16 = pre ++ elems x 16) ∧ Hid (TabOk wr) ∧ J pre wr) (fun r _ => (intOf r).toNat)
  case atStart => exact ⟨[], g, rfl, hg, rfl, hT, h0⟩
  case round =>
    obtain ⟨pre, x, rfl, hx, hpre, ht, hj⟩ := hrel
    by_cases hx0 : x = 0
    · have hF : Hid (elems g 16 = pre) := by show _ = _; rw [hpre.out, hx0, elems_zero, List.append_nil]
      have g0 : ((x : Int) != 0) = false := by rw [bne_eq_false_iff_eq]; omega
      clear hpre hx0
      gi_wp2
      go_end0
      exact ⟨⟨_, rfl⟩, .inl (by rw [hF.out]; exact hj)⟩
    · obtain ⟨t, q, hq⟩ := low_parts hx0
      rw [hq] at hx
      have hlow := elems_low (t := t) (q := q) (n := 16) (by omega)
      rw [← hq] at hlow
      have hdrop := low_drop t q
      rw [← hq] at hdrop
      obtain ⟨y, hy⟩ : ∃ y, y = 2 ^ (t + 1) * q := ⟨_, rfl⟩
      rw [← hy] at hlow hdrop
      have hyx : y < x := by
        have h1 : y ≤ x := by rw [← hdrop]; exact Nat.and_le_left
        have h2 : y ≠ x := by
          intro e
          have := Nat.and_le_right (n := x) (m := x - 1)
          omega
        omega
      have CT : Hid (∀ W m, TabOk W → CallsIn Fence.wide m Tryd.prog 113 #[.int .u16 (x : Int)] W fun e w' => e = .returned (.int .i64 t) ∧ W = w') := fun W m hT => by
        have := tz_any t q W hx hT
        rw [← hq] at this
        exact callsIn_wide.2 this
      have hx' : x < 65536 := by omega
      have e1 : IntKind.u16.wrap ((x : Int) - 1) = ((x - 1 : Nat) : Int) := by
        rw [show ((x : Int) - 1) = ((x - 1 : Nat) : Int) by omega]; exact wrap16 _ (by omega)
      have e2 : bits .and .u16 (x : Int) ((x - 1 : Nat) : Int) = (y : Int) := by rw [bits16_and _ _ hx' (by omega), hdrop]
      obtain ⟨z, hz⟩ : ∃ z, z = x - 1 := ⟨_, rfl⟩
      rw [← hz] at e1 e2
      have g0 : ((x : Int) != 0) = true := by rw [bne_iff_ne]; omega
      have hnext : Hid (elems g 16 = (pre ++ [t]) ++ elems y 16) := by show _ = _; rw [hpre.out, hlow]; simp
      have hlt := ht.out.lt
      obtain ⟨fn, tmps, assign, body, hyy, hR⟩ := HY.out pre t wr (by rw [hnext.out]; exact List.prefix_append _ _) hj (fun k hk => by rw [show k = _ from hk]; exact hlt)
      have HR := Lib.hid hR; have HYX := Lib.hid hyx
      clear hR hq hlow hdrop hy hz hpre hlt hyx hx
      gi_wp2_with (refine ⟨trivial, ?_⟩; gi_at_call 113; refine (CT.out _ _ ht.out).mono ?_; rintro e w' ⟨rfl, rfl⟩)
      refine HR.out.mono ?_
      rintro e W3 (⟨rfl, hJ3, hk3⟩ | ⟨rfl, hJx3⟩)
      · gi_wp2
        refine ⟨⟨_, y, rfl, by have := HYX.out; omega, hnext, ht.out.block (hk3.block _ ht.out.lt rfl), hJ3⟩, ?_⟩
        simp [intOf]; exact HYX.out
      · gi_wp2
        refine bodyPost_ret (results_none rfl _ _ _) rfl ?_
        exact ⟨⟨_, rfl⟩, .inr ⟨pre, t, by rw [hnext.out]; exact List.prefix_append _ _, hJx3⟩⟩
end Go.Proofs.YtfhnigpjmljhbaaDoor.Or

/- A walked table in memory; the contract of above. -/
set_option linter.unusedVariables false
set_option linter.unusedSimpArgs false
namespace Go.Proofs.YtfhnigpjmljhbaaDoor.Or
open Go.RowKit

/-- A walked table in memory. -/
structure WalkedAt (w : World) (b : Nat) (t : Tab) : Prop where
  frm : frmF t = true
  cells : ∃ ve va vw, w.cell? ⟨b, 0, none⟩ = some (.string (mkS t.name)) ∧ w.cell? ⟨b, 1, none⟩ = some ve ∧ w.cell? ⟨b, 2, none⟩ = some va ∧ w.cell? ⟨b, 3, none⟩ = some vw ∧ TabIn w ve va vw t
  rows : ∀ a, a < t.n → w.cell? ⟨b, 4 + a, none⟩ = some (.int .u16 (grp (t.R a) t.n : Nat))
theorem WalkedAt.below {w w' : World} {b : Nat} {t : Tab} (h : WalkedAt w b t) (hb : Below w.heap.size w w') : WalkedAt w' b t := by
  obtain ⟨ve, va, vw, h0, h1, h2, h3, h4⟩ := h.cells
  exact ⟨h.frm, ⟨ve, va, vw, (hb.cell (cell_lt h0)).trans h0, (hb.cell (cell_lt h1)).trans h1, (hb.cell (cell_lt h2)).trans h2, (hb.cell (cell_lt h3)).trans h3, h4.below hb⟩,
    fun a ha => (hb.cell (cell_lt (h.rows a ha))).trans (h.rows a ha)⟩
theorem WalkedAt.lt {w : World} {b : Nat} {t : Tab} (h : WalkedAt w b t) : b < w.heap.size := by
  obtain ⟨ve, va, vw, h0, _⟩ := h.cells; exact cell_lt h0
theorem WalkedAt.n12 {w : World} {b : Nat} {t : Tab} (h : WalkedAt w b t) : 1 ≤ t.n ∧ t.n ≤ 12 := by
  have := frm_len h.frm; unfold Tab.n; omega
theorem WalkedAt.elems {w : World} {b : Nat} {t : Tab} (h : WalkedAt w b t) : ∃ p c, w.cell? ⟨b, 1, none⟩ = some (.slice p t.n c) := by
  obtain ⟨ve, va, vw, h0, h1, h2, h3, h4⟩ := h.cells
  obtain ⟨p, c, rfl⟩ := h4.e.form
  exact ⟨p, c, h1⟩
theorem WalkedAt.wrong {w : World} {b : Nat} {t : Tab} (h : WalkedAt w b t) : ∃ p c, w.cell? ⟨b, 3, none⟩ = some (.slice p t.n c) ∧ RdB w (.slice p t.n c) t.wrong := by
  obtain ⟨ve, va, vw, h0, h1, h2, h3, h4⟩ := h.cells
  obtain ⟨p, c, rfl⟩ := h4.w.form
  have := (frm_len h.frm).2.2.2
  unfold Tab.n
  rw [← this]
  exact ⟨p, c, h3, h4.w⟩

theorem ix_row (b a : Nat) (h : a < 12) (W : World) : (Instr.indexAt 73 (.pointer (some ⟨b, 4, none⟩)) (.int .i64 (a : Int))).run Tryd.prog W = .ok (.pointer (some ⟨b, 4 + a, none⟩)) W := by
  have e1 : Tryd.prog.arrayLen 73 = 12 := by kernel_rfl
  have e2 : ∀ W, (sizeOf (Tryd.prog.elem 73)).run Tryd.prog W = .ok 1 W := fun W => by kernel_rfl
  refine (run_indexAt_array (P := Tryd.prog) (w := W) 73 ⟨b, 4, none⟩ .i64 (a : Int) (by kernel_rfl)).trans ?_
  rw [e1, if_pos ⟨by omega, by omega⟩, e2]
  simp [Result.andThen, Addr.add]
def ints (l : List Nat) : List Int := l.map fun (x : Nat) => (x : Int)
theorem ints_length (l : List Nat) : (ints l).length = l.length := by simp [ints]
theorem ints_get (l : List Nat) (k : Nat) (h : k < l.length) : (ints l).getD k 0 = ((l.getD k 0 : Nat) : Int) := by simp [ints, List.getD_eq_getElem?_getD, h]
/-- What is above all of some, as a group. -/
def upsG (t : Tab) (l : List Nat) : Nat := grp (fun c => l.all fun x => bel t.R x c) t.n
theorem ups_lt (t : Tab) (l : List Nat) (h : t.n ≤ 12) : upsG t l < 65536 := grp_lt16 _ (by omega)
theorem pow_lt16 {a : Nat} (h : a < 16) : 2 ^ a < 65536 := Nat.pow_lt_pow_right (a := 2) (m := a) (n := 16) (by decide) h

set_option maxRecDepth 100000 in
set_option maxHeartbeats 4000000 in
theorem above_any (b : Nat) (t : Tab) (v : Value) (l : List Nat) (w : World) (hW : WalkedAt w b t) (hv : RdI w v (ints l)) (hl : ∀ x ∈ l, x < t.n) :
    Calls Tryd.prog 46 #[.pointer (some ⟨b, 0, none⟩), v] w fun e w' => e = .returned (.int .u16 (upsG t l : Nat)) ∧ Below w.heap.size w w' := by
  obtain ⟨n1, n2⟩ := hW.n12
  obtain ⟨p, cap, rfl⟩ := hv.form
  obtain ⟨pe, ce, he⟩ := hW.elems
  have hln := hv.len
  rw [ints_length] at hln hv ⊢
  have HW := Lib.hid hW; have HV := Lib.hid hv; have HL := Lib.hid hl
  have C1 : Hid (∀ W, Calls Tryd.prog 82 #[.int .i64 t.n] W fun e w' => e = .returned (.int .u16 ((2 ^ t.n : Nat) : Int)) ∧ W = w') := fun W => one_any t.n W (by omega)
  have hfull : IntKind.u16.wrap (((2 ^ t.n : Nat) : Int) - 1) = ((upsG t [] : Nat) : Int) := by
    have h1 := pow_lt16 (a := t.n) (by omega)
    have h0 : 0 < 2 ^ t.n := Nat.pow_pos (by decide)
    have h2 : upsG t [] = 2 ^ t.n - 1 := by rw [grp_full]; rfl
    rw [h2, show (((2 ^ t.n : Nat) : Int) - 1) = ((2 ^ t.n - 1 : Nat) : Int) by omega]
    exact wrap16 _ (by omega)
  obtain ⟨pw, hpw⟩ : ∃ pw, pw = 2 ^ t.n := ⟨_, rfl⟩
  rw [← hpw] at C1 hfull
  obtain ⟨k0, hk0⟩ : ∃ k0, k0 = l.length := ⟨_, rfl⟩
  rw [← hk0] at HV hln ⊢
  have HK := Lib.hid hk0
  obtain ⟨u0, hu0⟩ : ∃ u0, u0 = upsG t [] := ⟨_, rfl⟩
  rw [← hu0] at hfull
  have HU := Lib.hid hu0
  clear hW hv hl hpw hk0 hu0
  go_enter Tryd.func46, Tryd.ntmps46
  go_wp2_with fail
  refine (C1.out _).mono ?_
  rintro e w' ⟨rfl, rfl⟩
  go_wp2
  go_loopw [5, 18] (fun o i wr => ∃ (k g : Nat), k ≤ k0 ∧ i = .int .i64 k ∧ o = .int .u16 g ∧ Hid (g = upsG t (l.take k)) ∧ Hid (Below w.heap.size w wr)) (fun _ i _ => k0 - (intOf i).toNat)
  case atStart => exact ⟨0, u0, Nat.zero_le _, rfl, rfl, by show _ = _; rw [HU.out]; simp, Below.refl _ _⟩
  case round =>
    obtain ⟨k, g, hk, rfl, rfl, hg, hb⟩ := hrel
    by_cases hlt : k < k0
    · have hkl : k < l.length := by have := HK.out; omega
      obtain ⟨bs, off, rfl, hc⟩ := (HV.out.below hb.out).cell (i := k) (by rw [ints_length]; exact hkl)
      obtain ⟨a, ha⟩ : ∃ a, a = l.getD k 0 := ⟨_, rfl⟩
      have hx : (ints l).getD k 0 = (a : Int) := by rw [ha]; exact ints_get l k hkl
      rw [hx] at hc
      have hat : a < t.n := HL.out a (by rw [ha]; simp [List.getD_eq_getElem?_getD, hkl])
      have hrow := (HW.out.below hb.out).rows a hat
      obtain ⟨r, hr⟩ : ∃ r, r = grp (t.R a) t.n := ⟨_, rfl⟩
      rw [← hr] at hrow
      have hrl : r < 65536 := by rw [hr]; exact grp_lt16 _ (by omega)
      have hgl : g < 65536 := by rw [hg.out]; exact ups_lt t _ n2
      have hpl := pow_lt16 (a := a) (by omega)
      have C2 : Hid (∀ W, Calls Tryd.prog 82 #[.int .i64 a] W fun e w' => e = .returned (.int .u16 ((2 ^ a : Nat) : Int)) ∧ W = w') := fun W => one_any a W (by omega)
      obtain ⟨s, hs⟩ : ∃ s, s = r ||| 2 ^ a := ⟨_, rfl⟩
      have e1 := bits16_or r (2 ^ a) hrl hpl
      rw [← hs] at e1
      have hsb : s = grp (bel t.R a) t.n := by rw [hs, hr]; exact row_bel t.R hat
      have hsl : s < 65536 := by rw [hsb]; exact grp_lt16 _ (by omega)
      have e2 := bits16_and g s hgl hsl
      obtain ⟨o2, ho2⟩ : ∃ o2, o2 = g &&& s := ⟨_, rfl⟩
      rw [← ho2] at e2
      have HO : Hid (o2 = upsG t (l.take (k + 1))) := by
        show _ = _
        rw [ho2, hg.out, hsb, List.take_succ_eq_append_getElem hkl, show l[k] = a by rw [ha]; simp [List.getD_eq_getElem?_getD, hkl]]
        exact row_all t.R t.n (l.take k) a
      obtain ⟨p2, hp2⟩ : ∃ p2, p2 = 2 ^ a := ⟨_, rfl⟩
      rw [← hp2] at C2 e1
      have hix := ix_row b a (by omega)
      clear hr hrl hgl hpl hs hsb hsl ho2 hp2 hx ha hg hat
      go_wp2
      go_quiet ((go_at_call 82; exact Calls.quiet_of_same ((C2.out _).mono fun _ _ h => ⟨h.1, h.2.symm⟩)))
      go_wp2
      go_roundw
      case rel => exact ⟨k + 1, o2, by omega, by go_num, rfl, HO, hb.out.trans (below_drewAt _ _ _)⟩
      case measure => simp [intOf]; omega
    · have HG : Hid (g = upsG t l) := by
        show _ = _
        rw [hg.out, List.take_of_length_le (by have := HK.out; omega)]
      clear hg
      go_wp2
      go_ret
      exact ⟨ret_int (by rw [HG.out]), hb.out⟩
end Go.Proofs.YtfhnigpjmljhbaaDoor.Or

/- The contract of list. -/
set_option linter.unusedVariables false
set_option linter.unusedSimpArgs false
namespace Go.Proofs.YtfhnigpjmljhbaaDoor.Or
open Go.RowKit Go.Shelf
attribute [local go_sem] Oper.semAt_some

theorem infoI : (Tryd.prog.info? 3).map (fun i => (i.zero, i.size, i.bytes)) = some (some (.int .i64 0), 1, 8) := by kernel_rfl

set_option maxRecDepth 100000 in
set_option maxHeartbeats 4000000 in
theorem list_own (g : Nat) (w : World) (hg : g < 65536) (hL : TabOk w) :
    Calls Tryd.prog 43 #[.int .u16 g] w fun e w' => ∃ v, e = .returned v ∧ w'.ownsRow w.heap.size 3 1 v (elems g 16).length ((ints (elems g 16)).map (Value.int .i64)) ∧ Below w.heap.size w w' := by
  obtain ⟨n, hn⟩ : ∃ n : Nat, 8 ≤ n := ⟨8, Nat.le_refl _⟩
  refine (callsIn_wide (n := n)).1 ?_
  have h1n : 1 ≤ n := by omega
  have h1n2 : 1 ≤ n - 1 - 1 := by omega
  obtain ⟨i0, hi, hz0, hz1, hz2⟩ := info_parts infoI
  refine callsIn_of_wp_marks Tryd.func43 rfl trivial ?_ rfl
  simp only [Tryd.ntmps43, List.size_toArray, List.length_cons, List.length_nil, Nat.reduceAdd, Nat.reduceSub, Array.replicate_succ, Array.replicate_zero, List.push_toArray, List.append_toArray, List.nil_append, List.cons_append]
  gi_wp2_with (refine ⟨trivial, ?_⟩; gi_at_call 80; refine (callsIn_wide.2 (each_any _ _)).mono ?_; rintro e w' ⟨rfl, rfl⟩)
  obtain ⟨m, hm⟩ : ∃ m, m = w.heap.size := ⟨_, rfl⟩
  have htab : 1 < m := by rw [hm]; exact hL.lt
  obtain ⟨W5, hW5⟩ : ∃ W5, W5 = (w.alloc (Obj.cells #[Value.slice none 0 0] 35)).alloc (Obj.cells #[Value.int .u16 g] 72) := ⟨_, rfl⟩
  rw [← hW5, ← hm]
  have z5 : W5.heap.size = m + 2 := by rw [hW5, hm]; simp
  have x5 : W5.cell? ⟨m, 0, none⟩ = some (.slice none 0 0) := by rw [hW5, hm]; simp [go_sem]
  have f5 : W5.frozen? ⟨m, 0, none⟩ = false := by rw [hW5, hm]; simp [go_sem]
  have g5 : W5.cell? ⟨m + 1, 0, none⟩ = some (.int .u16 g) := by rw [hW5, hm]; simp [go_sem]
  have b5 : Below w.heap.size w W5 := by rw [hW5]; exact ((Below.refl _ _).alloc (Nat.le_refl _) _).alloc (by simp) _
  have t5 : TabOk W5 := hL.block (b5.block _ (by rw [← hm]; exact htab))
  have Z5 := Lib.hid z5; have HM := Lib.hid hm
  have hlen : (elems g 16).length ≤ 16 := by have := List.length_filter_le (fun i => g.testBit i) (List.range 16); simpa [elems] using this
  have HLEN := Lib.hid hlen
  clear hW5 z5 hm hL hlen
  refine range_till (F := Fence.wide) (gf := 112) (lb := #[.pointer (some ⟨m + 1, 0, none⟩)]) (n := n) rfl (by omega) rfl trivial (enters_of Tryd.func112 (by kernel_rfl) rfl)
    (each_iter (n - 1) (by omega) (m + 1) g W5 hg g5 t5) (Below.refl _ _) (fun _ => rfl)
    (fun k => k = m + 2 ∨ k = m + 3) ?hZ ?hZ0 ?hZ1 (fun k => k = 1 ∨ k = m + 2 ∨ k = m + 3) ?hY ?hY0 ?hY1
    (fun pre V => ∃ v, V.cell? ⟨m, 0, none⟩ = some v ∧ V.frozen? ⟨m, 0, none⟩ = false ∧ V.ownsRow (m + 4) 3 1 v pre.length ((ints pre).map (Value.int .i64)) ∧ Below w.heap.size w V) ?hI
    (fun _ _ _ => False) (fun _ _ _ _ h _ => h) ⟨_, x5, f5, World.ownsRow_nil _ _ _ _, b5⟩
    (fun pre x a' V => ∃ v, (V.cell? ⟨m, 0, none⟩ = some v ∧ V.frozen? ⟨m, 0, none⟩ = false ∧ V.ownsRow (m + 4) 3 1 v pre.length ((ints pre).map (Value.int .i64)) ∧ Below w.heap.size w V) ∧
      a' = { tmps := #[.int .u16 g, undef, .slice none 0 0, .pointer (some ⟨m, 0, none⟩), .int .i64 x, .int .u16 g, .func (.func 112) #[] #[.pointer (some ⟨m + 1, 0, none⟩)], .int .i64 x, undef, undef, undef, undef, undef], defers := [] })
    ?hAx ?assign ?body ?hYb ?done ?stop
  case hZ => rintro W1 h1 k hk; exact hk.elim
  case hZ0 => have := Z5.out; omega
  case hZ1 => have := Z5.out; omega
  case hY => rintro W1 h1 k hk; have := Z5.out; have hk' : k = 1 := hk; exact ⟨.inl hk', by omega⟩
  case hY0 => have := Z5.out; omega
  case hY1 => have := Z5.out; omega
  case hYb => rintro W1 h1 k hk; have := Z5.out; rcases hk with hk | hk | hk
              · exact .inl hk
              · exact .inr (by omega)
              · exact .inr (by omega)
  case hI =>
    rintro pre A B ⟨v, a1, a2, a3, a4⟩ hd
    have e := HM.out
    exact ⟨v, cell_diff a1 hd (by omega), frozen_diff a1 a2 hd (by omega), ownsRow_diff a3 hd (fun k hk => by omega), a4.trans (hd.below a4.size (by omega))⟩
  case hAx =>
    rintro pre x a' A B ⟨v, ⟨a1, a2, a3, a4⟩, ha⟩ hd
    have e := HM.out
    exact ⟨v, ⟨cell_diff a1 hd (by omega), frozen_diff a1 a2 hd (by omega), ownsRow_diff a3 hd (fun k hk => by omega), a4.trans (hd.below a4.size (by omega))⟩, ha⟩
  case assign =>
    rintro l' pre x V K hpre ⟨v, a1, a2, a3, a4⟩ hbnd hK
    gi_wp2
    exact hK _ _ (Keep.refl _ _) ⟨v, ⟨a1, a2, a3, a4⟩, rfl⟩
  case body =>
    rintro l' pre x a' V hpre ⟨v, ⟨a1, a2, a3, a4⟩, rfl⟩ hbnd
    have hq2 : m + 4 ≤ V.heap.size := hbnd (m + 3) (by omega)
    have hpl : pre.length + 1 ≤ 16 := by
      have h1 := hpre.length_le
      simp at h1; have := HLEN.out; omega
    have HLT := Lib.hid a3.lt
    obtain ⟨ptr, cap, rfl⟩ := ownsRow_slice a3
    gi_wp2_with (gi_at_builtin; refine wpListIn_append_own _ rfl _ _ 35 rfl (m + 4) 3 i0 (.int .i64 0) 1 8 Tryd.underlying35 hi hz0 hz1 hz2 rfl (by decide) _ _ _ rfl (a3.alloc _) ⟨V.heap.size, 0, none⟩ 1 1 [.int .i64 x] rfl rfl ?c1 (by simp [Value.oneCell']) (by unfold maxLen; omega) (by omega) (by simp; omega) ?_)
    case c1 => intro j u hj; match j, hj with | 0, hj => (simp at hj; subst hj; simp [Addr.add])
    intro v' w' hown' hgrow _
    obtain ⟨p2, cap2, rfl⟩ := ownsRow_slice hown'
    have hlt := HLT.out
    have hbl : ∀ k, k < m + 4 → w'.heap[k]? = V.heap[k]? := fun k hk => by
      rw [hgrow.block k (by simp; omega) (fun e => by have := (hlt _ e.symm).1; omega)]
      exact Below.heap_alloc _ _ _ (by omega)
    have k1 : w'.cell? ⟨m, 0, none⟩ = some (.slice ptr pre.length cap) := (World.cell?_of_block (w := V) (hbl m (by omega))).trans a1
    have k2 : w'.frozen? ⟨m, 0, none⟩ = false := (World.frozen?_of_block (w := V) (hbl m (by omega))).trans a2
    have hkeep : Keep (fun k => k = 1 ∨ k = m + 2 ∨ k = m + 3) V w' := ⟨Nat.le_trans (by simp) hgrow.size, fun k hk hz => hbl k (by omega)⟩
    have e0 := HM.out
    have hbelow : Below w.heap.size w w' := Below.grown (a4.alloc a4.size _) hgrow (by have := a4.size; simp; omega) (fun j hj => by have := (hlt j hj).1; omega)
    have hrowN : w'.ownsRow (m + 4) 3 1 (.slice p2 (pre ++ [x]).length cap2) (pre ++ [x]).length ((ints (pre ++ [x])).map (Value.int .i64)) := by
      simpa [ints] using hown'
    have hmw : m < w'.heap.size := cell_lt k1
    have HK := Lib.hid hkeep; have HB := Lib.hid hbelow; have HR := Lib.hid hrowN; have HE0 := Lib.hid e0; have HT := Lib.hid htab
    clear hown' hgrow hkeep hbelow hrowN hbl a1 a2 a3 e0 htab
    gi_wp2
    refine ⟨HK.out.setCell (by have := HT.out; simp; omega) _, .slice p2 (pre ++ [x]).length cap2, ?_, ?_, ?_, HB.out.setCell (by have := HE0.out; simp; omega) _⟩
    · rw [World.cell?_setCell_same' _ _ _ (by rw [k1]; rfl)]; simp
    · rw [World.frozen?_setCell]; exact k2
    · exact ownsRow_block HR.out (fun k hk _ => Below.heap_setCell _ _ _ _ (by simp; omega))
  case done =>
    rintro V ⟨v, a1, a2, a3, a4⟩ hK
    have hR : RdI V v (ints (elems g 16)) := rd_own (by rw [List.length_map, ints_length]; exact a3) (by rw [List.length_map, ints_length]; have := HLEN.out; omega)
    obtain ⟨ptr, cap, rfl⟩ := ownsRow_slice a3
    have HR := Lib.hid hR
    have HA3 := Lib.hid a3
    clear hR a3
    gi_wp2
    refine ⟨by simp, .inl ⟨_, _, rfl, run_takeDeferred hK, ?_⟩⟩
    have e := HM.out; have e5 := Z5.out
    refine ⟨.slice ptr (elems g 16).length cap, by simp [results, Tryd.results43, go_sem], ⟨_, rfl, ?_, ?_⟩⟩
    · refine ownsRow_base (base := m + 4) ?_ (by omega)
      exact ownsRow_diff (Z := fun k => k = W5.heap.size) HA3.out ((Diff.refl (fun k => k = W5.heap.size) V).putObj (l := W5.heap.size) rfl _) (fun k hk => by omega)
    · exact a4.trans (((Diff.refl (fun k => k = W5.heap.size) V).putObj rfl _).below a4.size (fun k hk => by omega))
  case stop => rintro c pre x V hpre h; exact h.elim
theorem elems_len16 (g : Nat) : (elems g 16).length ≤ 16 := by have := List.length_filter_le (fun i => g.testBit i) (List.range 16); simpa [elems] using this
theorem list_any (g : Nat) (w : World) (hg : g < 65536) (hL : TabOk w) :
    Calls Tryd.prog 43 #[.int .u16 g] w fun e w' => ∃ v, e = .returned v ∧ RdI w' v (ints (elems g 16)) ∧ Below w.heap.size w w' := by
  refine (list_own g w hg hL).mono ?_
  rintro e w' ⟨v, rfl, h, hb⟩
  have := elems_len16 g
  exact ⟨v, rfl, rd_own (by rw [List.length_map, ints_length]; exact h) (by rw [List.length_map, ints_length]; omega), hb⟩
end Go.Proofs.YtfhnigpjmljhbaaDoor.Or
