/- Contracts of groups: one, has, the lowest bit, the iterator. -/
import Derived.Test.YtgbjelglifihnaaDoorOrQ
import Derived.OwnWalkIn
import Derived.TacticsInMore
import Derived.LoopNIn
import Derived.LoopIn
set_option linter.unusedVariables false
set_option linter.unusedSimpArgs false
namespace Go.Proofs.YtgbjelglifihnaaDoor.Or
open Go.RowKit Go.Shelf
attribute [local go_sem] Oper.semAt_some

theorem and_pow_ne (g a : Nat) : ((g &&& 2 ^ a) != 0) = g.testBit a := by
  cases h : g.testBit a with
  | true =>
    rw [bne_iff_ne]
    intro h0
    have := Nat.testBit_and g (2 ^ a) a
    rw [h0, h, Nat.testBit_two_pow] at this
    simp at this
  | false =>
    rw [bne_eq_false_iff_eq]
    refine Nat.eq_of_testBit_eq fun i => ?_
    rw [Nat.testBit_and, Nat.testBit_two_pow]
    by_cases e : a = i
    · subst e; rw [h]; simp
    · simp [e]

set_option maxHeartbeats 800000 in
theorem one_any (a : Nat) (w : World) (ha : a < 16) :
    Calls Tryd.prog 116 #[.int .i64 a] w fun e w' => e = .returned (.int .u16 ((2 ^ a : Nat) : Int)) ∧ w = w' := by
  have h : a = 0 ∨ a = 1 ∨ a = 2 ∨ a = 3 ∨ a = 4 ∨ a = 5 ∨ a = 6 ∨ a = 7 ∨ a = 8 ∨ a = 9 ∨ a = 10 ∨ a = 11 ∨ a = 12 ∨ a = 13 ∨ a = 14 ∨ a = 15 := by omega
  rcases h with rfl | rfl | rfl | rfl | rfl | rfl | rfl | rfl | rfl | rfl | rfl | rfl | rfl | rfl | rfl | rfl
  all_goals
    go_enter Tryd.func116, Tryd.ntmps116
    go_wp2
    go_ret
    exact ⟨rfl, rfl⟩
set_option maxHeartbeats 800000 in
theorem has_any (g a : Nat) (w : World) (hg : g < 65536) (ha : a < 16) :
    Calls Tryd.prog 67 #[.int .u16 g, .int .i64 a] w fun e w' => e = .returned (.bool (g.testBit a)) ∧ w = w' := by
  obtain ⟨p, hp⟩ : ∃ p, p = 2 ^ a := ⟨_, rfl⟩
  have hpl : p < 65536 := by rw [hp]; exact Nat.pow_lt_pow_right (a := 2) (m := a) (n := 16) (by decide) ha
  have CO : Hid (∀ W, Calls Tryd.prog 116 #[.int .i64 a] W fun e w' => e = .returned (.int .u16 (p : Int)) ∧ W = w') := fun W => by rw [hp]; exact one_any a W ha
  have hb := bits16_and g p hg hpl
  obtain ⟨x, hx⟩ : ∃ x, x = g &&& p := ⟨_, rfl⟩
  rw [← hx] at hb
  have hr : (((x : Nat) : Int) != 0) = g.testBit a := by
    have e : (((x : Nat) : Int) != 0) = (x != 0) := by rw [Bool.eq_iff_iff, bne_iff_ne, bne_iff_ne]; omega
    rw [e, hx, hp, and_pow_ne]
  have HR := Lib.hid hr
  clear hr hx hp hpl hg ha
  go_enter Tryd.func67, Tryd.ntmps67
  go_wp2_with fail
  refine (CO.out _).mono ?_
  rintro e w' ⟨rfl, rfl⟩
  go_wp2
  go_ret
  exact ⟨ret_bool HR.out, rfl⟩

/-- The table of bits. -/
def TabOk (w : World) : Prop := ∀ i, i < 32 → w.cell? ⟨1, i, none⟩ = some (.int .u8 (bruijnL.getD i 0))
theorem neg16 (x : Nat) (hx : 0 < x) (h : x < 65536) : IntKind.u16.wrap (-(x : Int)) = ((65536 - x : Nat) : Int) := by
  simp [IntKind.wrap, IntKind.bits, IntKind.signed]; omega
theorem tz_tab : ∀ t, t < 16 → (2 ^ t * 125613361) % 4294967296 / 134217728 < 32 ∧ bruijnL.getD ((2 ^ t * 125613361) % 4294967296 / 134217728) 0 = t := by decide

set_option maxRecDepth 100000 in
set_option maxHeartbeats 2000000 in
theorem tz_any (t q : Nat) (w : World) (h : 2 ^ t * (2 * q + 1) < 65536) (hL : TabOk w) :
    Calls Tryd.prog 140 #[.int .u16 ((2 ^ t * (2 * q + 1) : Nat) : Int)] w fun e w' => e = .returned (.int .i64 t) ∧ w = w' := by
  have ht := low_t h
  have hn := low_neg h
  obtain ⟨g, hg⟩ : ∃ g, g = 2 ^ t * (2 * q + 1) := ⟨_, rfl⟩
  rw [← hg] at h hn ⊢
  have hpos : 0 < g := by rw [hg]; exact Nat.mul_pos (Nat.pow_pos (by decide)) (by omega)
  have e1 := neg16 g hpos h
  have e2 : bits .and .u16 (g : Int) ((65536 - g : Nat) : Int) = ((2 ^ t : Nat) : Int) := by
    rw [bits16_and _ _ h (by omega), hn]
  have g0 : ((g : Int) == 0) = false := by rw [beq_eq_false_iff_ne]; omega
  have g0' : ¬ g = 0 := by omega
  obtain ⟨m, hm⟩ : ∃ m, m = 65536 - g := ⟨_, rfl⟩
  rw [← hm] at e1 e2
  obtain ⟨i1, i2⟩ := tz_tab t ht
  have hc := hL _ i1
  rw [i2] at hc
  clear hm hpos hn hg hL i1 i2 h
  have hh : t = 0 ∨ t = 1 ∨ t = 2 ∨ t = 3 ∨ t = 4 ∨ t = 5 ∨ t = 6 ∨ t = 7 ∨ t = 8 ∨ t = 9 ∨ t = 10 ∨ t = 11 ∨ t = 12 ∨ t = 13 ∨ t = 14 ∨ t = 15 := by omega
  clear ht
  rcases hh with rfl | rfl | rfl | rfl | rfl | rfl | rfl | rfl | rfl | rfl | rfl | rfl | rfl | rfl | rfl | rfl
  all_goals
    simp only [Nat.reducePow, Nat.reduceMul, Nat.reduceMod, Nat.reduceDiv] at hc e2
    go_enter Tryd.func140, Tryd.ntmps140
    go_wp2
    go_ret
    exact ⟨rfl, rfl⟩

theorem each_any (g : Nat) (w : World) :
    Calls Tryd.prog 117 #[.int .u16 g] w fun e w' => e = .returned (.func (.func 139) #[] #[.pointer (some ⟨w.heap.size, 0, none⟩)]) ∧ w' = w.alloc (.cells #[.int .u16 g] 84) := by
  go_enter Tryd.func117, Tryd.ntmps117
  go_wp2
  go_ret
  exact ⟨rfl, rfl⟩

/-- The block of the table of bits. -/
def TabZ (_ : World) (k : Nat) : Prop := k = 1
theorem TabOk.lt {w : World} (h : TabOk w) : 1 < w.heap.size := cell_lt (h 0 (by decide))
theorem TabOk.block {w w' : World} (h : TabOk w) (hb : w'.heap[1]? = w.heap[1]?) : TabOk w' := fun i hi => (World.cell?_of_block (w := w) hb).trans (h i hi)

set_option maxRecDepth 100000 in
set_option maxHeartbeats 4000000 in
theorem each_iter (n : Nat) (hn : 1 ≤ n) (bg g : Nat) (w : World) (hg : g < 65536) (hc : w.cell? ⟨bg, 0, none⟩ = some (.int .u16 g)) (hL : TabOk w) :
    IterS Fence.wide n Tryd.prog 139 #[.pointer (some ⟨bg, 0, none⟩)] (fun x : Nat => #[Value.int .i64 x]) (elems g 16) (fun _ _ => False) TabZ w := by
  intro l J Jx W hW hJ hJx hY h0
  have hb := cell_lt hc
  have d := (hW.cell hb).trans hc
  have hT : Hid (TabOk W) := hL.block (hW.block _ hL.lt)
  have HY := Lib.hid hY; have HJ := Lib.hid hJ; have HJX := Lib.hid hJx
  clear hY hJ hJx hc hL
  refine callsIn_of_wp Tryd.func139 rfl trivial ?_ rfl
  simp only [Tryd.ntmps139, List.size_toArray, List.length_cons, List.length_nil, Nat.reduceAdd, Nat.reduceSub, Array.replicate_succ, Array.replicate_zero, List.push_toArray, List.append_toArray, List.nil_append, List.cons_append]
  gi_wp2
  gi_loopw [3] (fun r wr => ∃ (pre : List Nat) (x : Nat), r = .int .u16 x ∧ x < 65536 ∧ Hid (elems g 16 = pre ++ elems x 16) ∧ Hid (TabOk wr) ∧ J pre wr) (fun r _ => (intOf r).toNat)
  case atStart => exact ⟨[], g, rfl, hg, rfl, hT, h0⟩
  case round =>
    obtain ⟨pre, x, rfl, hx, hpre, ht, hj⟩ := hrel
    by_cases hx0 : x = 0
    · have hF : Hid (elems g 16 = pre) := by show _ = _; rw [hpre.out, hx0, elems_zero, List.append_nil]
      have g0 : ((x : Int) != 0) = false := by rw [bne_eq_false_iff_eq]; omega
      clear hpre hx0
      gi_wp2
      go_end0
      exact ⟨⟨_, rfl⟩, .inl (by rw [hF.out]; exact hj)⟩
    · obtain ⟨t, q, hq⟩ := low_parts hx0
      rw [hq] at hx
      have hlow := elems_low (t := t) (q := q) (n := 16) (by omega)
      rw [← hq] at hlow
      have hdrop := low_drop t q
      rw [← hq] at hdrop
      obtain ⟨y, hy⟩ : ∃ y, y = 2 ^ (t + 1) * q := ⟨_, rfl⟩
      rw [← hy] at hlow hdrop
      have hyx : y < x := by
        have h1 : y ≤ x := by rw [← hdrop]; exact Nat.and_le_left
        have h2 : y ≠ x := by
          intro e
          have := Nat.and_le_right (n := x) (m := x - 1)
          omega
        omega
      have CT : Hid (∀ W m, TabOk W → CallsIn Fence.wide m Tryd.prog 140 #[.int .u16 (x : Int)] W fun e w' => e = .returned (.int .i64 t) ∧ W = w') := fun W m hT => by
        have := tz_any t q W hx hT
        rw [← hq] at this
        exact callsIn_wide.2 this
      have hx' : x < 65536 := by omega
      have e1 : IntKind.u16.wrap ((x : Int) - 1) = ((x - 1 : Nat) : Int) := by
        rw [show ((x : Int) - 1) = ((x - 1 : Nat) : Int) by omega]; exact wrap16 _ (by omega)
      have e2 : bits .and .u16 (x : Int) ((x - 1 : Nat) : Int) = (y : Int) := by rw [bits16_and _ _ hx' (by omega), hdrop]
      obtain ⟨z, hz⟩ : ∃ z, z = x - 1 := ⟨_, rfl⟩
      rw [← hz] at e1 e2
      have g0 : ((x : Int) != 0) = true := by rw [bne_iff_ne]; omega
      have hnext : Hid (elems g 16 = (pre ++ [t]) ++ elems y 16) := by show _ = _; rw [hpre.out, hlow]; simp
      have hlt := ht.out.lt
      obtain ⟨fn, tmps, assign, body, hyy, hR⟩ := HY.out pre t wr (by rw [hnext.out]; exact List.prefix_append _ _) hj (fun k hk => by rw [show k = _ from hk]; exact hlt)
      have HR := Lib.hid hR; have HYX := Lib.hid hyx
      clear hR hq hlow hdrop hy hz hpre hlt hyx hx
      gi_wp2_with (refine ⟨trivial, ?_⟩; gi_at_call 140; refine (CT.out _ _ ht.out).mono ?_; rintro e w' ⟨rfl, rfl⟩)
      refine HR.out.mono ?_
      rintro e W3 (⟨rfl, hJ3, hk3⟩ | ⟨rfl, hJx3⟩)
      · gi_wp2
        refine ⟨⟨_, y, rfl, by have := HYX.out; omega, hnext, ht.out.block (hk3.block _ ht.out.lt rfl), hJ3⟩, ?_⟩
        simp [intOf]; exact HYX.out
      · gi_wp2
        refine bodyPost_ret (results_none rfl _ _ _) rfl ?_
        exact ⟨⟨_, rfl⟩, .inr ⟨pre, t, by rw [hnext.out]; exact List.prefix_append _ _, hJx3⟩⟩
end Go.Proofs.YtgbjelglifihnaaDoor.Or
