/- The iterator of pairs. -/
import Derived.Test.YtgbjelglifihnaaDoorOrV
set_option linter.unusedVariables false
set_option linter.unusedSimpArgs false
namespace Go.Proofs.YtgbjelglifihnaaDoor.Or
open Go.RowKit Go.Shelf
attribute [local go_sem] Oper.semAt_some

def rowUp (a y : Nat) : List (Nat × Nat) := ((List.range y).filter fun b => decide (a < b)).map fun b => (a, b)
def flatP (n k : Nat) : List (Nat × Nat) := (List.range k).flatMap fun a => rowUp a n
theorem pairs_flat (n : Nat) : pairsL n = flatP n n := rfl
theorem flat_succ (n a : Nat) : flatP n (a + 1) = flatP n a ++ rowUp a n := by simp [flatP, List.range_succ]
theorem rowUp_start (a : Nat) : rowUp a (a + 1) = [] := by
  unfold rowUp
  rw [List.map_eq_nil_iff, List.filter_eq_nil_iff]
  intro x hx; rw [List.mem_range] at hx; simp; omega
theorem rowUp_succ {a y : Nat} (h : a < y) : rowUp a (y + 1) = rowUp a y ++ [(a, y)] := by simp [rowUp, List.range_succ, h]
theorem range_pre {k n : Nat} (h : k ≤ n) : List.range k <+: List.range n := by
  obtain ⟨d, rfl⟩ := Nat.exists_eq_add_of_le h
  exact ⟨_, (List.range_add).symm⟩
theorem pairs_pre {n a y : Nat} (h : a < y) (hy : y < n) : (flatP n a ++ rowUp a y) ++ [(a, y)] <+: pairsL n := by
  rw [List.append_assoc, ← rowUp_succ h]
  have h1 : rowUp a (y + 1) <+: rowUp a n := ((range_pre (show y + 1 ≤ n by omega)).filter _).map _
  obtain ⟨r1, hr1⟩ := h1
  obtain ⟨r2, hr2⟩ := range_pre (show a + 1 ≤ n by omega)
  have h2 : flatP n (a + 1) ++ r2.flatMap (fun a => rowUp a n) = pairsL n := by
    rw [pairs_flat]; unfold flatP; rw [← List.flatMap_append, hr2]
  rw [← h2, flat_succ, ← hr1]
  exact ⟨r1 ++ r2.flatMap (fun a => rowUp a n), by simp⟩

set_option maxRecDepth 100000 in
set_option maxHeartbeats 4000000 in
theorem pairs_iter (N : Nat) (hN : 1 ≤ N) (b bp : Nat) (t : Tab) (w : World) (hW : WalkedAt w b t) (hc : w.cell? ⟨bp, 0, none⟩ = some (.pointer (some ⟨b, 0, none⟩))) :
    IterS Fence.wide N Tryd.prog 138 #[.pointer (some ⟨bp, 0, none⟩)] (fun x : Nat × Nat => #[Value.int .i64 x.1, Value.int .i64 x.2]) (pairsL t.n) (fun _ _ => False) (fun _ k => k = bp ∨ k = b) w := by
  intro l J Jx W hWb hJ hJx hY h0
  obtain ⟨pe, ce, he⟩ := hW.elems
  have hn12 := hW.n12
  have lb := cell_lt he
  have lp := cell_lt hc
  have d0 := (hWb.cell lp).trans hc
  have d1 := (hWb.cell lb).trans he
  obtain ⟨n, hn⟩ : ∃ n, n = t.n := ⟨_, rfl⟩
  rw [← hn] at d1 hY hn12 ⊢
  have HY := Lib.hid hY
  clear hY hJ hJx hc he hW hn
  refine callsIn_of_wp Tryd.func138 rfl trivial ?_ rfl
  simp only [Tryd.ntmps138, List.size_toArray, List.length_cons, List.length_nil, Nat.reduceAdd, Nat.reduceSub, Array.replicate_succ, Array.replicate_zero, List.push_toArray, List.append_toArray, List.nil_append, List.cons_append]
  gi_wp2
  gi_loopw [11] (fun i wr => ∃ a : Nat, a ≤ n ∧ i = .int .i64 a ∧ J (flatP n a) wr ∧ wr.cell? ⟨bp, 0, none⟩ = some (.pointer (some ⟨b, 0, none⟩)) ∧ wr.cell? ⟨b, 1, none⟩ = some (.slice pe n ce)) (fun i _ => n - (intOf i).toNat)
  case atStart => exact ⟨0, Nat.zero_le _, rfl, h0, d0, d1⟩
  case round =>
    obtain ⟨a, ha, rfl, hj, c0, c1⟩ := hrel
    by_cases hlt : a < n
    · have hj1 : J (flatP n a ++ rowUp a (a + 1)) wr := by rw [rowUp_start, List.append_nil]; exact hj
      have HJ1 := Lib.hid hj1
      clear hj hj1
      gi_wp2
      gi_loopw [4] (fun i wr2 => ∃ y : Nat, a < y ∧ y ≤ n ∧ i = .int .i64 y ∧ J (flatP n a ++ rowUp a y) wr2 ∧ wr2.cell? ⟨bp, 0, none⟩ = some (.pointer (some ⟨b, 0, none⟩)) ∧ wr2.cell? ⟨b, 1, none⟩ = some (.slice pe n ce)) (fun i _ => n - (intOf i).toNat)
      case atStart => exact ⟨a + 1, by omega, by omega, by go_num, HJ1.out, c0, c1⟩
      case round =>
        obtain ⟨y, hay, hyn, rfl, hj2, k0, k1⟩ := hrel
        by_cases hly : y < n
        · obtain ⟨fn, tmps, assign, body, hyy, hR⟩ := HY.out _ (a, y) wr (pairs_pre hay hly) hj2 (fun k hk => by
            rcases hk with rfl | rfl
            · exact cell_lt k0
            · exact cell_lt k1)
          have hl0 := cell_lt k0; have hl1 := cell_lt k1
          have HS := Lib.hid (rowUp_succ hay)
          have HR := Lib.hid hR; clear hR hj2
          gi_wp2
          refine HR.out.mono ?_
          rintro e W3 (⟨rfl, hJ3, hk3⟩ | ⟨rfl, hJx3⟩)
          · have hj4 : J (flatP n a ++ rowUp a (y + 1)) W3 := by rw [HS.out, ← List.append_assoc]; exact hJ3
            have q0 := cell_keep k0 hk3 (.inl rfl)
            have q1 := cell_keep k1 hk3 (.inr rfl)
            have HJ4 := Lib.hid hj4
            clear hJ3 hk3 hj4 k0 k1
            gi_wp2
            exact ⟨⟨y + 1, by omega, by omega, by go_num, HJ4.out, q0, q1⟩, by simp [intOf]; omega⟩
          · have HX : Hid (∃ pre x, pre ++ [x] <+: pairsL n ∧ Jx (pre ++ [x]) W3) := ⟨_, _, pairs_pre hay hly, hJx3⟩
            clear hJx3 k0 k1
            gi_wp2
            refine bodyPost_ret (results_none rfl _ _ _) rfl ?_
            exact ⟨⟨_, rfl⟩, .inr HX.out⟩
        · have HJ4 : Hid (J (flatP n (a + 1)) wr) := by
            show J _ _
            have e : y = n := by omega
            rw [e] at hj2; rw [flat_succ]; exact hj2
          clear hj2
          gi_wp2
          exact ⟨⟨a + 1, by omega, by go_num, HJ4.out, k0, k1⟩, by simp [intOf]; omega⟩
    · have HJ4 : Hid (J (pairsL n) wr) := by
        show J _ _
        have e : a = n := by omega
        rw [pairs_flat]; rw [e] at hj; exact hj
      clear hj
      gi_wp2
      go_end0
      exact ⟨⟨_, rfl⟩, .inl HJ4.out⟩
end Go.Proofs.YtgbjelglifihnaaDoor.Or
