/- The reference's Apart and Join. -/
import Derived.Test.YtlhbfgkcalalkaaGreatDoorQn
import Derived.Test.YtlhbfgkcalalkaaGreatDoorKb
import Derived.Test.YtlhbfgkcalalkaaGreatDoorFb
set_option linter.unusedVariables false
set_option linter.unusedSimpArgs false
namespace Go.Proofs.YtlhbfgkcalalkaaGreatDoor
open Go.RowKit Go.Shelf

theorem apart_eq (a b : List UInt8) (k : Nat) (q : Option Nat) (t : List UInt8) (hk : kindR a = some k) (ht : tokR (a ++ b) = (q, t)) :
    (q.isSome && t == a) = (t == a) ∧ (t = a → q = some k) := by
  have key : t = a → q = some k := by
    intro e
    subst e
    unfold kindR at hk
    cases ha : t with
    | nil => rw [ha] at hk; simp [tokR] at hk
    | cons c r =>
      rw [ha] at hk ht
      rw [List.cons_append] at ht
      unfold tokR at hk ht
      simp only at hk ht
      by_cases h2 : cls c.toNat = 2
      · simp only [h2, if_true] at hk ht
        obtain ⟨e1, e2⟩ := Prod.mk.inj ht
        rw [e2] at e1
        cases hw : wordK ((c :: r).takeWhile (ofCls [2, 3])) with
        | none => rw [hw] at hk; simp at hk
        | some k' =>
          rw [hw] at hk
          simp only at hk
          split at hk
          · rename_i e3
            rw [e3] at hw
            cases hk
            rw [← e1, hw]
          · cases hk
      · by_cases h3 : cls c.toNat = 3
        · simp only [h2, h3, if_true, if_false] at hk ht
          rw [if_neg (by decide)] at hk ht
          obtain ⟨e1, e2⟩ := Prod.mk.inj ht
          rw [e2] at e1
          cases hw : numK ((c :: r).takeWhile (ofCls [3])) with
          | none => rw [hw] at hk; simp at hk
          | some k' =>
            rw [hw] at hk
            simp only at hk
            split at hk
            · rename_i e3
              rw [e3] at hw
              cases hk
              rw [← e1, hw]
            · cases hk
        · simp only [h2, h3, if_false] at hk ht
          cases hs : signAt (c :: (r ++ b)) with
          | none => rw [hs] at ht; simp at ht
          | some u =>
            rw [hs] at ht
            obtain ⟨e1, e2⟩ := Prod.mk.inj ht
            cases hs2 : signAt (c :: r) with
            | none => rw [hs2] at hk; simp at hk
            | some u2 =>
              rw [hs2] at hk
              simp only at hk
              split at hk
              · cases hk; exact e1.symm
              · cases hk
  refine ⟨?_, key⟩
  by_cases e : t = a
  · rw [key e]; simp
  · have : (t == a) = false := by simpa using e
    rw [this]; simp

set_option maxRecDepth 100000 in
set_option maxHeartbeats 2000000 in
theorem refApart_any (x y : Lx) (w : World) (hx : kindR x.2.1 = some x.1) (hl : x.2.1.length + y.2.1.length ≤ 100000) :
    Calls Tryz.prog 42 #[lxV x, lxV y] w fun e w' => e = .returned (.bool (!partsF x.2.1 y.2.1)) ∧ Below w.heap.size w w' := by
  obtain ⟨k, a, p⟩ := x
  obtain ⟨k2, b, p2⟩ := y
  simp only at hx hl
  obtain ⟨q, t, hqt⟩ : ∃ q t, tokR (a ++ b) = (q, t) := ⟨_, _, rfl⟩
  obtain ⟨h1, h2⟩ := apart_eq a b k q t hx hqt
  have hne : a ≠ [] := by intro e; rw [e] at hx; simp [kindR, tokR] at hx
  have hap : 0 < a.length := List.length_pos_iff.2 hne
  have HP : Hid (partsF a b = (t == a)) := by show _ = _; unfold partsF; rw [hqt]; exact h1
  have CT : Hid (∀ W, Calls Tryz.prog 32 #[.string (mkS a ++ mkS b), .int .i64 0] W fun e w' => e = .returned (.agg #[.int .u8 (q.getD 0 : Nat), .string (mkS t), .int .i64 0]) ∧ Below W.heap.size W w') := fun W => by
    rw [mkS_append]
    have := refToken_any (mkS (a ++ b)) 0 W (by rw [mkS_size]; simp; omega) (by rw [mkS_size]; simp; omega)
    rw [mkS_list, List.drop_zero, hqt] at this; exact this
  have hsa : (mkS a).size = a.length := mkS_size a
  have hsb : (mkS b).size = b.length := mkS_size b
  have hsl : (mkS a).size + (mkS b).size ≤ 100000 := by omega
  unfold lxV
  by_cases hta : t = a
  · have hq := h2 hta
    subst hta
    rw [hq] at CT
    have CT2 : Hid (∀ W, Calls Tryz.prog 32 #[.string (mkS t ++ mkS b), .int .i64 0] W fun e w' => e = .returned (.agg #[.int .u8 k, .string (mkS t), .int .i64 0]) ∧ Below W.heap.size W w') := CT
    have HP2 : Hid (partsF t b = true) := by show _ = _; rw [HP.out]; simp
    clear CT h1 h2 hq hqt hx hl hap hne hsa hsb HP
    go_enter Tryz.func42, Tryz.ntmps42
    go_wp2_with fail
    refine (CT2.out _).mono ?_
    rintro e w1 ⟨rfl, hb1⟩
    have k0 : w1.cell? ⟨w.heap.size, 0, none⟩ = some (.int .u8 k) := (hb1.cell (by simp; omega)).trans (by simp [go_sem])
    have k1 : w1.cell? ⟨w.heap.size, 1, none⟩ = some (.string (mkS t)) := (hb1.cell (by simp; omega)).trans (by simp [go_sem])
    have hz : w.heap.size < w1.heap.size := cell_lt k0
    have hF := Lib.hid ((((Below.refl w.heap.size w).alloc (Nat.le_refl _) _).alloc (by simp) _).trans (hb1.mono (by simp <;> omega)))
    clear hb1
    go_wp2
    go_ret
    refine ⟨ret_bool (by rw [HP2.out]; rfl), ?_⟩
    exact hF.out.alloc (Nat.le_of_lt hz) _
  · have HP2 : Hid (partsF a b = false) := by show _ = _; rw [HP.out]; simpa using hta
    obtain ⟨K, hK⟩ : ∃ K : Nat, K = q.getD 0 := ⟨_, rfl⟩
    rw [← hK] at CT
    have g2 : ((mkS t).toList == (mkS a).toList) = false := by rw [beq_eq_false_iff_ne]; intro e; exact hta (mkS_tl.1 e)
    have g3 : ¬ ((mkS t).toList = (mkS a).toList) := by rw [mkS_tl]; exact hta
    clear h1 h2 hqt hx hl hap hne hsa hsb HP hta hK
    go_enter Tryz.func42, Tryz.ntmps42
    go_wp2_with fail
    refine (CT.out _).mono ?_
    rintro e w1 ⟨rfl, hb1⟩
    have k0 : w1.cell? ⟨w.heap.size, 0, none⟩ = some (.int .u8 k) := (hb1.cell (by simp; omega)).trans (by simp [go_sem])
    have k1 : w1.cell? ⟨w.heap.size, 1, none⟩ = some (.string (mkS a)) := (hb1.cell (by simp; omega)).trans (by simp [go_sem])
    have hz : w.heap.size < w1.heap.size := cell_lt k0
    have hF := Lib.hid ((((Below.refl w.heap.size w).alloc (Nat.le_refl _) _).alloc (by simp) _).trans (hb1.mono (by simp <;> omega)))
    clear hb1
    go_wp2
    go_ret
    refine ⟨ret_bool (by rw [HP2.out]; rfl), ?_⟩
    exact hF.out.alloc (Nat.le_of_lt hz) _
end Go.Proofs.YtlhbfgkcalalkaaGreatDoor
