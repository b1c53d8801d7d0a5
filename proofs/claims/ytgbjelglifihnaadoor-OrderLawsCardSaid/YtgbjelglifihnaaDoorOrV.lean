/- Contracts of missing, unjoined, pairs. -/
import Derived.Test.YtgbjelglifihnaaDoorOrU
set_option linter.unusedVariables false
set_option linter.unusedSimpArgs false
namespace Go.Proofs.YtgbjelglifihnaaDoor.Or
open Go.RowKit Go.Shelf
attribute [local go_sem] Oper.semAt_some

/-- Whether numbers are those of elements. -/
def inF (n : Nat) (x : Int) : Bool := decide (0 ≤ x) && decide (x < n)

set_option maxRecDepth 100000 in
set_option maxHeartbeats 2000000 in
theorem missing1 (b bp : Nat) (t : Tab) (x : Int) (w : World) (hW : WalkedAt w b t) (hp : w.cell? ⟨bp, 0, none⟩ = some (.pointer (some ⟨b, 0, none⟩))) :
    Calls Tryd.prog 137 #[.int .i64 x, .pointer (some ⟨bp, 0, none⟩)] w fun e w' => e = .returned (.bool (inF t.n x)) ∧ Below w.heap.size w w' := by
  obtain ⟨pe, ce, he⟩ := hW.elems
  have hn := hW.n12
  clear hW
  by_cases h1 : 0 ≤ x
  · have g1 : decide (0 ≤ x) = true := decide_eq_true h1
    have HF : Hid (inF t.n x = decide (x < t.n)) := by show _ = _; simp [inF, h1]
    go_enter Tryd.func137, Tryd.ntmps137
    go_wp2
    go_ret
    exact ⟨ret_bool (by rw [HF.out]), Below.refl _ _⟩
  · have g1 : decide (0 ≤ x) = false := decide_eq_false h1
    have HF : Hid (inF t.n x = false) := by show _ = _; simp [inF, h1]
    go_enter Tryd.func137, Tryd.ntmps137
    go_wp2
    go_ret
    exact ⟨ret_bool (by rw [HF.out]), Below.refl _ _⟩

set_option maxRecDepth 100000 in
set_option maxHeartbeats 2000000 in
theorem missing_any (b : Nat) (t : Tab) (v : Value) (l : List Int) (w : World) (hW : WalkedAt w b t) (hv : RdI w v l) :
    Calls Tryd.prog 108 #[.pointer (some ⟨b, 0, none⟩), v] w fun e w' => e = .returned (.int .i64 (if l.all (inF t.n) then 0 else 7)) ∧ Below w.heap.size w w' := by
  obtain ⟨W2, hW2⟩ : ∃ W2, W2 = w.alloc (.cells #[.pointer (some ⟨b, 0, none⟩)] 75) := ⟨_, rfl⟩
  have b2 : Below w.heap.size w W2 := by rw [hW2]; exact (Below.refl _ _).alloc (Nat.le_refl _) _
  have c2 : W2.cell? ⟨w.heap.size, 0, none⟩ = some (.pointer (some ⟨b, 0, none⟩)) := by rw [hW2]; simp [go_sem]
  have C := everyI_st v (l.map (Value.int .i64)) 137 #[.pointer (some ⟨w.heap.size, 0, none⟩)] (fun k => inF t.n (l.getD k 0))
    (fun _ W => Below w.heap.size w W ∧ W.cell? ⟨w.heap.size, 0, none⟩ = some (.pointer (some ⟨b, 0, none⟩))) W2 (enters_of Tryd.func137 (by kernel_rfl) rfl) (fun k W h => Rd.below hv h.1) ⟨b2, c2⟩ (fun k W hk h => by
      have hk' : k < l.length := by simpa using hk
      have hx : (l.map (Value.int .i64))[k] = .int .i64 (l.getD k 0) := by simp [List.getD_eq_getElem?_getD, hk']
      rw [hx]
      refine (missing1 b w.heap.size t (l.getD k 0) W (hW.below h.1) h.2).mono ?_
      rintro e w' ⟨rfl, hb⟩
      exact ⟨rfl, h.1.trans (hb.mono h.1.size), (hb.cell (cell_lt h.2)).trans h.2⟩)
  have hall : (List.range (l.map (Value.int .i64)).length).all (fun k => inF t.n (l.getD k 0)) = l.all (inF t.n) := by
    rw [all_range l 0 (inF t.n), List.length_map]
  rw [hall] at C
  obtain ⟨p, cap, rfl⟩ := hv.form
  have HC := Lib.hid C; have HW2 := Lib.hid hW2
  clear hv C hW2 b2 c2 hall hW
  cases hq : l.all (inF t.n) with
  | true =>
    rw [hq] at HC
    clear hq
    go_enter Tryd.func108, Tryd.ntmps108
    go_wp2_with fail
    rw [← HW2.out]
    refine HC.out.mono ?_
    rintro e w' ⟨rfl, k, hj⟩
    have hb := hj.1
    clear hj
    go_wp2
    go_ret
    exact ⟨rfl, hb⟩
  | false =>
    rw [hq] at HC
    clear hq
    go_enter Tryd.func108, Tryd.ntmps108
    go_wp2_with fail
    rw [← HW2.out]
    refine HC.out.mono ?_
    rintro e w' ⟨rfl, k, hj⟩
    have hb := hj.1
    clear hj
    go_wp2
    go_ret
    exact ⟨rfl, hb⟩

set_option maxRecDepth 100000 in
set_option maxHeartbeats 2000000 in
theorem unjoined_any (b : Nat) (t : Tab) (a c : Nat) (w : World) (hW : WalkedAt w b t) (ha : a < t.n) (hc : c < t.n) :
    Calls Tryd.prog 110 #[.pointer (some ⟨b, 0, none⟩), .int .i64 a, .int .i64 c] w fun e w' => e = .returned (.int .u8 (if (ups t.R t.n [a, c]).isEmpty then 3 else 4)) ∧ Below w.heap.size w w' := by
  obtain ⟨W2, hW2⟩ : ∃ W2, W2 = w.alloc (.cells #[.int .i64 (a : Int), .int .i64 (c : Int)] 3) := ⟨_, rfl⟩
  have b2 : Below w.heap.size w W2 := by rw [hW2]; exact (Below.refl _ _).alloc (Nat.le_refl _) _
  have s2 : RdI W2 (.slice (some ⟨w.heap.size, 0, none⟩) 2 2) (ints [a, c]) := by
    refine rdI_new (ns := [a, c]) (cs := #[Value.int IntKind.i64 ↑a, Value.int IntKind.i64 ↑c]) (T := 3) (fr := (0, 0)) ?_ (by simp [ints]) (by simp) (by simp)
    rw [hW2]
    exact heap_alloc_new w _
  have C := Lib.hid (above_any b t _ [a, c] W2 (hW.below b2) s2 (by intro x hx; simp at hx; rcases hx with rfl | rfl <;> assumption))
  have hq : (((upsG t [a, c] : Nat) : Int) == 0) = (ups t.R t.n [a, c]).isEmpty := by
    rw [← no_bound t.R t.n [a, c]]
    show _ = (upsG t [a, c] == 0)
    rw [Bool.eq_iff_iff, beq_iff_eq, beq_iff_eq]; omega
  obtain ⟨G, hG⟩ : ∃ G, G = upsG t [a, c] := ⟨_, rfl⟩
  rw [← hG] at C hq
  have HW2 := Lib.hid hW2
  have HB2 := Lib.hid b2
  clear hW hW2 b2 s2 hG ha hc
  cases he : (ups t.R t.n [a, c]).isEmpty with
  | true =>
    rw [he] at hq
    clear he
    go_enter Tryd.func110, Tryd.ntmps110
    go_wp2_with fail
    rw [← HW2.out]
    refine C.out.mono ?_
    rintro e w' ⟨rfl, hb⟩
    go_wp2
    go_ret
    exact ⟨rfl, HB2.out.trans (hb.mono HB2.out.size)⟩
  | false =>
    rw [he] at hq
    clear he
    go_enter Tryd.func110, Tryd.ntmps110
    go_wp2_with fail
    rw [← HW2.out]
    refine C.out.mono ?_
    rintro e w' ⟨rfl, hb⟩
    go_wp2
    go_ret
    exact ⟨rfl, HB2.out.trans (hb.mono HB2.out.size)⟩

theorem pairs_any (b : Nat) (w : World) :
    Calls Tryd.prog 109 #[.pointer (some ⟨b, 0, none⟩)] w fun e w' => e = .returned (.func (.func 138) #[] #[.pointer (some ⟨w.heap.size, 0, none⟩)]) ∧ w' = w.alloc (.cells #[.pointer (some ⟨b, 0, none⟩)] 75) := by
  go_enter Tryd.func109, Tryd.ntmps109
  go_wp2
  go_ret
  exact ⟨rfl, rfl⟩
end Go.Proofs.YtgbjelglifihnaaDoor.Or
