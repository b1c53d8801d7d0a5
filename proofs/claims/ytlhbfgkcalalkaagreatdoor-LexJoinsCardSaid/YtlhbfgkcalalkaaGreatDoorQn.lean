/- The reference's Kind, and the walk of LexKinds. -/
import Derived.Test.YtlhbfgkcalalkaaGreatDoorQm
import Derived.Test.YtlhbfgkcalalkaaGreatDoorQa
set_option linter.unusedVariables false
set_option linter.unusedSimpArgs false
namespace Go.Proofs.YtlhbfgkcalalkaaGreatDoor
open Go.RowKit Go.Shelf

theorem signAt_no (c : UInt8) (r : List UInt8) (h : c = 32 ∨ c = 10 ∨ c = 37) : signAt (c :: r) = none := by
  unfold signAt
  rw [List.find?_eq_none]
  intro p hp hh
  have hd : ∀ p ∈ signsL, p.head? ≠ some 32 ∧ p.head? ≠ some 10 ∧ p.head? ≠ some 37 ∧ p ≠ [] := by decide
  obtain ⟨h1, h2, h3, h4⟩ := hd p hp
  simp only [Lib.hasPrefix, List.isPrefixOf_iff_prefix] at hh
  cases p with
  | nil => exact h4 rfl
  | cons y ys =>
    obtain ⟨z, hz⟩ := hh
    simp only [List.cons_append, List.cons.injEq] at hz
    obtain ⟨rfl, _⟩ := hz
    rcases h with rfl | rfl | rfl
    · exact h1 rfl
    · exact h2 rfl
    · exact h3 rfl
theorem kindR_no (c : UInt8) (r : List UInt8) (h : c = 32 ∨ c = 10 ∨ c = 37) : kindR (c :: r) = none := by
  have hs := signAt_no c r h
  have h2 : cls c.toNat ≠ 2 := by rcases h with rfl | rfl | rfl <;> decide
  have h3 : cls c.toNat ≠ 3 := by rcases h with rfl | rfl | rfl <;> decide
  have e : tokR (c :: r) = (none, []) := by unfold tokR; simp only [h2, h3, if_false, hs]
  unfold kindR; rw [e]
theorem tokR_pos (r : List UInt8) (k : Nat) (h : (tokR r).1 = some k) : k ≠ 0 := by
  cases r with
  | nil => simp [tokR] at h
  | cons c r =>
    unfold tokR at h
    simp only at h
    by_cases h2 : cls c.toNat = 2
    · simp only [h2, if_true] at h
      unfold wordK at h
      split at h
      · simp at h; omega
      · split at h
        · simp at h
        · simp at h; omega
    · by_cases h3 : cls c.toNat = 3
      · simp only [h2, h3, if_true, if_false] at h
        rw [if_neg (by decide)] at h
        unfold numK at h
        split at h
        · simp at h; omega
        · simp at h
      · simp only [h2, h3, if_false] at h
        cases hs : signAt (c :: r) with
        | none => rw [hs] at h; simp at h
        | some t => rw [hs] at h; simp at h; omega

set_option maxRecDepth 100000 in
set_option maxHeartbeats 2000000 in
theorem refKind_first (c : UInt8) (r : List UInt8) (w : World) (h : c = 32 ∨ c = 10 ∨ c = 37) :
    Calls Tryz.prog 41 #[.string (mkS (c :: r))] w fun e w' => e = .returned (.tuple #[.int .u8 0, .int .i64 4]) ∧ Below w.heap.size w w' := by
  have hne : (mkS (c :: r)).toList ≠ [] := by rw [ByteArray.toList_eq, mkS_list]; simp
  have hz : 0 < (mkS (c :: r)).size := by rw [mkS_size]; simp
  have h0 : (mkS (c :: r))[0].toNat = c.toNat := by rw [mkS_getD]; rfl
  obtain ⟨b, hb⟩ : ∃ b, b = mkS (c :: r) := ⟨_, rfl⟩
  have HB : Hid ((if hq : 0 < b.size then b[0].toNat else 0) = c.toNat) := by
    show _ = _; rw [dif_pos (by rw [hb]; exact hz)]; subst hb; exact h0
  rw [← hb] at hne hz ⊢
  have HV : b[0].toNat = c.toNat := by have := HB.out; rwa [dif_pos hz] at this
  clear h0 hb HB
  rcases h with rfl | rfl | rfl
  · have g1 : ((b[0].toNat : Int) == 32) = true := by rw [HV]; rfl
    clear HV
    go_enter Tryz.func41, Tryz.ntmps41
    go_wp2
    all_goals go_ret2
    all_goals exact ⟨rfl, Below.refl _ _⟩
  · have g1 : ((b[0].toNat : Int) == 32) = false := by rw [HV]; rfl
    have g2 : ((b[0].toNat : Int) == 10) = true := by rw [HV]; rfl
    clear HV
    go_enter Tryz.func41, Tryz.ntmps41
    go_wp2
    all_goals go_ret2
    all_goals exact ⟨rfl, Below.refl _ _⟩
  · have g1 : ((b[0].toNat : Int) == 32) = false := by rw [HV]; rfl
    have g2 : ((b[0].toNat : Int) == 10) = false := by rw [HV]; rfl
    have g3 : ((b[0].toNat : Int) == 37) = true := by rw [HV]; rfl
    clear HV
    go_enter Tryz.func41, Tryz.ntmps41
    go_wp2
    all_goals go_ret2
    all_goals exact ⟨rfl, Below.refl _ _⟩

set_option maxRecDepth 100000 in
set_option maxHeartbeats 2000000 in
theorem refKind_nil (w : World) :
    Calls Tryz.prog 41 #[.string (mkS [])] w fun e w' => e = .returned (.tuple #[.int .u8 0, .int .i64 4]) ∧ Below w.heap.size w w' := by
  have hne : (mkS []).toList = [] := by rw [ByteArray.toList_eq, mkS_list]
  obtain ⟨b, hb⟩ : ∃ b, b = mkS [] := ⟨_, rfl⟩
  rw [← hb] at hne ⊢
  clear hb
  go_enter Tryz.func41, Tryz.ntmps41
  go_wp2
  all_goals go_ret2
  all_goals exact ⟨rfl, Below.refl _ _⟩

set_option maxRecDepth 100000 in
set_option maxHeartbeats 2000000 in
theorem refKind_tok (c : UInt8) (r : List UInt8) (w : World) (hs : (c :: r).length ≤ 100000) (h : c ≠ 32 ∧ c ≠ 10 ∧ c ≠ 37) (K : Nat) (x : List UInt8) (hK : K = (tokR (c :: r)).1.getD 0) (hx : x = (tokR (c :: r)).2) :
    Calls Tryz.prog 41 #[.string (mkS (c :: r))] w fun e w' => e = .returned (.tuple #[.int .u8 (if K = 0 then 0 else if x = c :: r then K else 0), .int .i64 (if K = 0 then 4 else if x = c :: r then 0 else 4)]) ∧ Below w.heap.size w w' := by
  have hne : (mkS (c :: r)).toList ≠ [] := by rw [ByteArray.toList_eq, mkS_list]; simp
  have hz : 0 < (mkS (c :: r)).size := by rw [mkS_size]; simp
  have h0 : (mkS (c :: r))[0].toNat = c.toNat := by rw [mkS_getD]; rfl
  have CT : Hid (∀ W, Calls Tryz.prog 32 #[.string (mkS (c :: r)), .int .i64 0] W fun e w' => e = .returned (.agg #[.int .u8 K, .string (mkS x), .int .i64 0]) ∧ Below W.heap.size W w') := fun W => by
    have := refToken_any (mkS (c :: r)) 0 W (by rw [mkS_size]; exact hs) hz
    rw [mkS_list, List.drop_zero, ← hK, ← hx] at this; exact this
  have HEQ : Hid (((mkS x).toList == (mkS (c :: r)).toList) = decide (x = c :: r)) := by
    show _ = _; rw [ByteArray.toList_eq, ByteArray.toList_eq, mkS_list, mkS_list, Bool.eq_iff_iff]; simp
  obtain ⟨h1, h2, h3⟩ := h
  have f : ∀ n : UInt8, c ≠ n → ((c.toNat : Int) == (n.toNat : Int)) = false := fun n hn => by
    rw [byte_beq]; simpa using hn
  have F1 := f 32 h1
  have F2 := f 10 h2
  have F3 := f 37 h3
  obtain ⟨b, hb⟩ : ∃ b, b = mkS (c :: r) := ⟨_, rfl⟩
  have HB : Hid ((if hq : 0 < b.size then b[0].toNat else 0) = c.toNat) := by
    show _ = _; rw [dif_pos (by rw [hb]; exact hz)]; subst hb; exact h0
  rw [← hb] at hne hz CT HEQ ⊢
  have HV : b[0].toNat = c.toNat := by have := HB.out; rwa [dif_pos hz] at this
  have hie : b.toList.isEmpty = false := by cases hbl : b.toList with | nil => exact absurd hbl hne | cons _ _ => rfl
  have g1 : ((b[0].toNat : Int) == 32) = false := by rw [HV]; exact F1
  have g2 : ((b[0].toNat : Int) == 10) = false := by rw [HV]; exact F2
  have g3 : ((b[0].toNat : Int) == 37) = false := by rw [HV]; exact F3
  clear h0 hb HB HV f F1 F2 F3 h1 h2 h3 hK hx
  by_cases hk : K = 0
  · rw [if_pos hk, if_pos hk]
    have e1 : ((K : Int) == 0) = true := by rw [hk]; rfl
    clear hk
    go_enter Tryz.func41, Tryz.ntmps41
    go_wp2_with fail
    refine (CT.out _).mono ?_
    rintro e w1 ⟨rfl, hb⟩
    have HB1 := Lib.hid hb
    clear hb
    go_wp2
    all_goals go_ret2
    all_goals exact ⟨rfl, HB1.out.alloc HB1.out.size _⟩
  · rw [if_neg hk, if_neg hk]
    have e1 : ((K : Int) == 0) = false := by rw [beq_eq_false_iff_ne]; omega
    clear hk
    by_cases hxx : x = c :: r
    · rw [if_pos hxx, if_pos hxx]
      have e2 : ((mkS x).toList == b.toList) = true := by rw [HEQ.out]; simp [hxx]
      clear hxx
      go_enter Tryz.func41, Tryz.ntmps41
      go_wp2_with fail
      refine (CT.out _).mono ?_
      rintro e w1 ⟨rfl, hb⟩
      have HB1 := Lib.hid hb
      clear hb
      go_wp2
      all_goals go_ret2
      all_goals exact ⟨rfl, HB1.out.alloc HB1.out.size _⟩
    · rw [if_neg hxx, if_neg hxx]
      have e2 : ((mkS x).toList == b.toList) = false := by rw [HEQ.out]; simp [hxx]
      clear hxx
      go_enter Tryz.func41, Tryz.ntmps41
      go_wp2_with fail
      refine (CT.out _).mono ?_
      rintro e w1 ⟨rfl, hb⟩
      have HB1 := Lib.hid hb
      clear hb
      go_wp2
      all_goals go_ret2
      all_goals exact ⟨rfl, HB1.out.alloc HB1.out.size _⟩

theorem refKind_any (l : List UInt8) (w : World) (hs : l.length ≤ 100000) :
    Calls Tryz.prog 41 #[.string (mkS l)] w fun e w' => e = .returned (.tuple #[.int .u8 ((kindR l).getD 0), .int .i64 (if (kindR l).isSome then 0 else 4)]) ∧ Below w.heap.size w w' := by
  cases l with
  | nil => exact refKind_nil w
  | cons c r =>
    by_cases h : c = 32 ∨ c = 10 ∨ c = 37
    · rw [kindR_no c r h]; exact refKind_first c r w h
    · have := refKind_tok c r w hs (by simpa [not_or] using h) _ _ rfl rfl
      have e1 : kindR (c :: r) = match tokR (c :: r) with | (some k, t) => if t = c :: r then some k else none | (none, _) => none := rfl
      obtain ⟨k, t, hkt⟩ : ∃ k t, tokR (c :: r) = (k, t) := ⟨_, _, rfl⟩
      rw [hkt] at e1 this
      cases k with
      | none => rw [e1]; exact this
      | some k =>
        have hk : k ≠ 0 := tokR_pos _ k (by rw [hkt])
        simp only [Option.getD_some] at this e1
        rw [if_neg hk, if_neg hk] at this
        rw [e1]
        by_cases hx : t = c :: r
        · rw [if_pos hx, if_pos hx] at this; rw [if_pos hx]; exact this
        · rw [if_neg hx, if_neg hx] at this; rw [if_neg hx]; exact this
end Go.Proofs.YtlhbfgkcalalkaaGreatDoor
