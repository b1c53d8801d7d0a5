/- thin; the walk of LexJoins. -/
import Derived.Test.YtlhbfgkcalalkaaGreatDoorYh
import Derived.Test.YtlhbfgkcalalkaaGreatDoorNa
import Derived.Test.YtlhbfgkcalalkaaGreatDoorLb
import Derived.Test.YtlhbfgkcalalkaaGreatDoorQa
set_option linter.unusedVariables false
set_option linter.unusedSimpArgs false
namespace Go.Proofs.YtlhbfgkcalalkaaGreatDoor
open Go.RowKit Go.Shelf

/-- Whether tokens are what a law looks at. -/
def thinF (ls : List Lx) : Bool := decide (ls.length ≤ 1000) && ls.all fun y => decide (y.2.1.length ≤ 3000)

set_option maxRecDepth 100000 in
set_option maxHeartbeats 2000000 in
theorem thin_any (v : Value) (ls : List Lx) (w : World) (hv : ReadsLx w v ls) :
    Calls Tryz.prog 13 #[v] w fun e w' => e = .returned (.bool (thinF ls)) ∧ w = w' := by
  have HA := Lib.hid (reads_at hv)
  obtain ⟨p, cap, rfl, hl, j2⟩ := hv
  obtain ⟨n, hn⟩ : ∃ n, n = ls.length := ⟨_, rfl⟩
  have HT : Hid (n ≤ 1000 → thinF ls = ls.all fun y => decide (y.2.1.length ≤ 3000)) := fun h => by
    unfold thinF; rw [decide_eq_true (by omega)]; rfl
  have HT2 : Hid (1000 < n → thinF ls = false) := fun h => by
    unfold thinF; rw [decide_eq_false (by omega)]; rfl
  have HN := Lib.hid hn
  rw [← hn] at hl ⊢
  clear hn j2
  by_cases h : 1000 < n
  · have HR := Lib.hid (HT2.out h)
    clear HT HT2 HA
    go_enter Tryz.func13, Tryz.ntmps13
    go_wp2
    go_ret
    exact ⟨ret_bool (by rw [HR.out]), rfl⟩
  · have hn1 : n ≤ 1000 := by omega
    have HR := Lib.hid (HT.out hn1)
    clear HT HT2
    go_enter Tryz.func13, Tryz.ntmps13
    go_wp2
    go_loop [3] (fun i => ∃ k : Nat, k ≤ n ∧ i = .int .i64 k ∧ Hid ((ls.drop k).all (fun y => decide (y.2.1.length ≤ 3000)) = thinF ls)) (fun i => n - (intOf i).toNat)
    case atStart => exact ⟨0, Nat.zero_le _, rfl, by show _ = _; rw [HR.out]; rfl⟩
    case round =>
      obtain ⟨k, hk, rfl, hpre⟩ := hrel
      by_cases hlt : k < n
      · have hkl : k < ls.length := by have := HN.out; omega
        obtain ⟨b, off, cap', hsl, c1, c2, c3⟩ := HA.out k hkl
        simp only [Value.slice.injEq] at hsl
        obtain ⟨rfl, hu1, hu2⟩ := hsl
        clear hu1 hu2
        have hd : ls.drop k = ls.getD k (0, [], 0) :: ls.drop (k + 1) := by
          rw [List.drop_eq_getElem_cons hkl]; simp [List.getD_eq_getElem?_getD, hkl]
        obtain ⟨x, hx⟩ : ∃ x, x = ls.getD k (0, [], 0) := ⟨_, rfl⟩
        rw [← hx] at c1 c2 c3 hd
        obtain ⟨x1, x2, x3⟩ := x
        have CS : Hid (∀ W, Calls Tryz.prog 8 #[.string (mkS x2)] W fun e w' => e = .returned (.bool (decide (x2.length ≤ 3000))) ∧ W = w') := fun W => short_of x2 W
        have hstep := hpre.out
        rw [hd, List.all_cons] at hstep
        simp only at hstep
        have hkI : (k : Int) < (n : Int) := by omega
        by_cases hs : x2.length ≤ 3000
        · rw [decide_eq_true hs] at CS hstep
          have H : Hid ((ls.drop (k + 1)).all (fun y => decide (y.2.1.length ≤ 3000)) = thinF ls) := by show _ = _; rw [← hstep]; rfl
          clear hstep hd hx hpre hs hkl
          go_wp2_with fail
          refine (CS.out _).mono ?_
          rintro e w' ⟨rfl, rfl⟩
          go_wp2
          go_round
          case rel => exact ⟨k + 1, by omega, by go_num, H⟩
          case measure => simp [intOf]; omega
        · rw [decide_eq_false hs] at CS hstep
          have H : Hid (thinF ls = false) := by show _ = _; rw [← hstep]; rfl
          clear hstep hd hx hpre hs hkl
          go_wp2_with fail
          refine (CS.out _).mono ?_
          rintro e w' ⟨rfl, rfl⟩
          go_wp2
          go_ret
          exact ⟨ret_bool (by rw [H.out]), rfl⟩
      · have H : Hid (thinF ls = true) := by
          show _ = _; rw [← hpre.out, List.drop_of_length_le (by have := HN.out; omega)]; rfl
        clear hpre
        go_wp2
        go_ret
        exact ⟨ret_bool (by rw [H.out]), rfl⟩

set_option maxRecDepth 100000 in
set_option maxHeartbeats 4000000 in
theorem joins_any (v : Value) (ls : List Lx) (w : World) (hv : ReadsLx w v ls) (he : ErrOk w) :
    Calls Tryz.prog 4 #[v] w fun e w' => e = .returned (.bool true) ∧ Below w.heap.size w w' := by
  have CW : Hid (∀ W, Below w.heap.size w W → Calls Tryz.prog 9 #[] W fun e w' => e = .returned (.bool true) ∧ Below W.heap.size W w') := fun W hW => awake_any W (he.below hW)
  have hB0 : Below w.heap.size w w := Below.refl _ _
  have CT := thin_any v ls w hv
  cases ht : thinF ls with
  | false =>
    rw [ht] at CT
    have CTH := Lib.hid CT
    obtain ⟨p, cap, rfl, _, _⟩ := hv
    clear ht he CT
    go_enter Tryz.func4, Tryz.ntmps4
    go_wp2_with fail
    refine CTH.out.mono ?_
    rintro e w' ⟨rfl, rfl⟩
    go_wp2_with fail
    refine (CW.out _ hB0).mono ?_
    rintro e w5 ⟨rfl, hb5⟩
    go_wp2
    go_ret
    exact ⟨ret_bool rfl, hb5⟩
  | true =>
    rw [ht] at CT
    have CTH := Lib.hid CT
    have hn : ls.length ≤ 1000 := by
      unfold thinF at ht; rw [Bool.and_eq_true, decide_eq_true_eq] at ht; exact ht.1
    have hy : ∀ y ∈ ls, y.2.1.length ≤ 3000 := fun y hy => by
      unfold thinF at ht; rw [Bool.and_eq_true, List.all_eq_true] at ht
      simpa using ht.2 y hy
    obtain ⟨T, hT⟩ : ∃ T, T = (joinF ls).1 := ⟨_, rfl⟩
    obtain ⟨E, hE⟩ : ∃ E : Int, E = (joinF ls).2 := ⟨_, rfl⟩
    have C1 : Hid (∀ W u, Below w.heap.size w W → ReadsLx W u ls → Calls Tryz.prog 14 #[u] W fun e w' => e = .returned (.tuple #[.string (mkS T), .int .i64 E]) ∧ Below W.heap.size W w') := fun W u hW hu => by
      rw [hT, hE]; exact join_any u ls W hu (he.below hW) (fun y h => by have := hy y h; omega)
    have C2 : Hid (∀ W u, ReadsLx W u ls → Calls Tryz.prog 15 #[u] W fun e w' => e = .returned (.tuple #[.string (mkS T), .int .i64 E]) ∧ Below W.heap.size W w') := fun W u hu => by
      rw [hT, hE]; exact refJoin_any u ls W hu (fun y h => by have := hy y h; omega)
    have CE : Hid (∀ W v1 v2, ReadsLx W v1 ls → ReadsLx W v2 ls → Calls Tryz.prog 12 #[v1, v2] W fun e w' => e = .returned (.bool true) ∧ Below W.heap.size W w') := fun W v1 v2 h1 h2 => by
      have := same_any v1 v2 ls ls W h1 h2
      rw [show (ls == ls) = true by simp] at this; exact this
    have HV := Lib.hid hv
    obtain ⟨n, hnn⟩ : ∃ n, n = ls.length := ⟨_, rfl⟩
    have HNN := Lib.hid hnn
    obtain ⟨p, cap, rfl, _, _⟩ := hv
    clear ht he CT hy hT hE hnn
    go_enter Tryz.func4, Tryz.ntmps4
    go_wp2_with fail
    refine CTH.out.mono ?_
    rintro e w' ⟨rfl, rfl⟩
    go_wp2_with (at_builtin; refine wpList_append_reads rfl _ _ rfl w.heap.size _ _ 0 [] rfl (World.ownsRow_nil _ _ _ _) rfl ls HV.out (Nat.le_refl _) (by omega) ?_)
    intro v' w1 hown hb1
    obtain ⟨ptr, cap2, rfl⟩ := ownsRow_slice hown
    have HB1 := Lib.hid hb1
    have R1 : Hid (ReadsLx w1 (.slice ptr ls.length cap2) ls) := reads_own hown (by omega)
    have R0 : Hid (ReadsLx w1 (.slice p ls.length cap) ls) := HV.out.below hb1
    clear hown hb1
    go_wp2_with fail
    refine (C1.out _ _ HB1.out R1.out).mono ?_
    rintro e w2 ⟨rfl, hb2⟩
    have HB2 := Lib.hid (HB1.out.trans (hb2.mono HB1.out.size))
    have R12 := Lib.hid (R1.out.below hb2)
    have R02 := Lib.hid (R0.out.below hb2)
    clear hb2
    go_wp2_with fail
    refine (C2.out _ _ R02.out).mono ?_
    rintro e w3 ⟨rfl, hb3⟩
    have HB3 := Lib.hid (HB2.out.trans (hb3.mono HB2.out.size))
    have R13 := Lib.hid (R12.out.below hb3)
    have R03 := Lib.hid (R02.out.below hb3)
    clear hb3
    go_wp2_with fail
    refine (CE.out _ _ _ R13.out R03.out).mono ?_
    rintro e w4 ⟨rfl, hb4⟩
    have HB4 := Lib.hid (HB3.out.trans (hb4.mono HB3.out.size))
    clear hb4
    go_wp2_with fail
    refine (CW.out _ HB4.out).mono ?_
    rintro e w5 ⟨rfl, hb5⟩
    have hF : Below w.heap.size w w5 := HB4.out.trans (hb5.mono HB4.out.size)
    clear hb5
    go_wp2
    go_ret
    exact ⟨ret_bool rfl, hF⟩
end Go.Proofs.YtlhbfgkcalalkaaGreatDoor
