/- The reference's Token. -/
import Derived.Test.YtlhbfgkcalalkaaGreatDoorGa
import Derived.Test.YtlhbfgkcalalkaaGreatDoorQd
import Derived.Test.YtlhbfgkcalalkaaGreatDoorHe
set_option linter.unusedVariables false
set_option linter.unusedSimpArgs false
namespace Go.Proofs.YtlhbfgkcalalkaaGreatDoor
open Go.RowKit Go.Shelf

/-- The longest sign of some that a text begins with, or the one before. -/
def bestL (r : List UInt8) : List (List UInt8) → List UInt8 → List UInt8
  | [], acc => acc
  | t :: ts, acc => bestL r ts (if acc.length < t.length ∧ Lib.hasPrefix r t = true then t else acc)
theorem bestL_keep (r : List UInt8) : ∀ (ts : List (List UInt8)) (acc : List UInt8), (∀ t ∈ ts, t.length ≤ acc.length) → bestL r ts acc = acc
  | [], acc, _ => rfl
  | t :: ts, acc, h => by
    have h1 := h t (List.mem_cons_self ..)
    rw [bestL, if_neg (by omega)]
    exact bestL_keep r ts acc fun u hu => h u (List.mem_cons_of_mem _ hu)
theorem bestL_find (r : List UInt8) : ∀ (ts : List (List UInt8)), (∀ t ∈ ts, t ≠ []) → ts.Pairwise (fun a b => b.length ≤ a.length) → bestL r ts [] = (ts.find? (fun p => Lib.hasPrefix r p)).getD []
  | [], _, _ => rfl
  | t :: ts, h, hp => by
    rw [List.pairwise_cons] at hp
    have h1 : t ≠ [] := h t (List.mem_cons_self ..)
    have h2 : 0 < t.length := List.length_pos_iff.2 h1
    rw [bestL, List.find?_cons]
    cases hh : Lib.hasPrefix r t with
    | true =>
      rw [if_pos ⟨h2, rfl⟩, bestL_keep r ts t hp.1]; rfl
    | false =>
      rw [if_neg (by simp)]
      exact bestL_find r ts (fun u hu => h u (List.mem_cons_of_mem _ hu)) hp.2
theorem bestL_signs (r : List UInt8) : bestL r signsL [] = (signAt r).getD [] := bestL_find r signsL (by decide) (by decide)
theorem bestL_drop (r : List UInt8) (k : Nat) (hk : k < signsL.length) (acc : List UInt8) :
    bestL r (signsL.drop k) acc = bestL r (signsL.drop (k + 1)) (if acc.length < (signsL.getD k []).length ∧ Lib.hasPrefix r (signsL.getD k []) = true then signsL.getD k [] else acc) := by
  rw [List.drop_eq_getElem_cons hk, bestL]
  have : signsL.getD k [] = signsL[k] := by rw [List.getD_eq_getElem?_getD, List.getElem?_eq_getElem hk]; rfl
  rw [this]

set_option maxRecDepth 100000 in
set_option maxHeartbeats 4000000 in
theorem refToken_word (s : ByteArray) (at_ : Nat) (w : World) (hs : s.size ≤ 100000) (ha : at_ < s.size) (hc : cls (s[at_].toNat) = 2) (K : Nat) (x : List UInt8)
    (hx : x = (s.data.toList.drop at_).takeWhile (ofCls [2, 3])) (hK : K = (wordK x).getD 0) :
    Calls Tryz.prog 32 #[.string s, .int .i64 at_] w fun e w' => e = .returned (.agg #[.int .u8 K, .string (mkS x), .int .i64 at_]) ∧ Below w.heap.size w w' := by
  have hml : s.size ≤ maxLen := by unfold maxLen; omega
  obtain ⟨P, hP⟩ : ∃ P, P = pst (ofCls [2, 3]) s.data.toList at_ := ⟨_, rfl⟩
  have hPt : s.extract at_ P = mkS x := by rw [hP, hx]; exact pst_text _ s at_
  have hP1 : at_ ≤ P := by rw [hP]; exact pst_ge _ _ _
  have hP2 : P ≤ s.size := by rw [hP]; have := pst_le (ofCls [2, 3]) s.data.toList at_ (by simp; omega); simpa using this
  have CL : Hid (∀ W, Calls Tryz.prog 62 #[.int .u8 (s[at_].toNat)] W fun e w' => e = .returned (.bool true) ∧ W = w') := fun W => by
    have := isLetter_any (s[at_].toNat) W
    rw [decide_eq_true hc] at this; exact this
  have CR : Hid (∀ W, Calls Tryz.prog 63 #[.string s, .int .i64 at_, .bool true] W fun e w' => e = .returned (.int .i64 P) ∧ W = w') := fun W => by
    rw [hP]; exact run_any s at_ true W hml (by omega)
  have hxl : (s.extract at_ P).size ≤ 100000 := by rw [ByteArray.size_extract]; omega
  have CK : Hid (∀ W, Calls Tryz.prog 64 #[.string (s.extract at_ P)] W fun e w' => e = .returned (.bool (isKey x)) ∧ Below W.heap.size W w') := fun W => by
    have := isKeyword_any (s.extract at_ P) W (by unfold maxLen; omega)
    rw [hPt, mkS_list] at this; rw [hPt]; exact this
  have hxs : (s.extract at_ P).size = x.length := by rw [hPt, mkS_size]
  have HPT := Lib.hid hPt
  rw [← hPt]
  clear hx hPt hc hml hP
  cases hk : isKey x with
  | true =>
    have HK : Hid (K = 3) := by show _ = _; rw [hK]; unfold wordK; rw [hk]; rfl
    rw [hk] at CK
    rw [HK.out]
    clear hK hk hxs HK
    go_enter Tryz.func32, Tryz.ntmps32
    go_wp2_with fail
    refine (CL.out _).mono ?_
    rintro e w' ⟨rfl, rfl⟩
    go_wp2_with fail
    refine (CR.out _).mono ?_
    rintro e w' ⟨rfl, rfl⟩
    go_wp2_with fail
    refine (CK.out _).mono ?_
    rintro e w1 ⟨rfl, hb⟩
    have hs1 := hb.size
    have r0 : w1.cell? ⟨w.heap.size, 0, none⟩ = some (.int .u8 0) := (hb.cell (by simp; omega)).trans (by simp [go_sem])
    have r1 : w1.cell? ⟨w.heap.size, 1, none⟩ = some (.string ⟨#[]⟩) := (hb.cell (by simp; omega)).trans (by simp [go_sem])
    have r2 : w1.cell? ⟨w.heap.size, 2, none⟩ = some (.int .i64 0) := (hb.cell (by simp; omega)).trans (by simp [go_sem])
    have x0 : w1.cell? ⟨w.heap.size + 1, 0, none⟩ = some (.int .u8 0) := (hb.cell (by simp)).trans (by simp [go_sem])
    have x1 : w1.cell? ⟨w.heap.size + 1, 1, none⟩ = some (.string (s.extract at_ P)) := (hb.cell (by simp)).trans (by simp [go_sem])
    have x2 : w1.cell? ⟨w.heap.size + 1, 2, none⟩ = some (.int .i64 at_) := (hb.cell (by simp)).trans (by simp [go_sem])
    have q0 : w1.frozen? ⟨w.heap.size, 0, none⟩ = false := (hb.frozen (by simp; omega)).trans (by simp [go_sem])
    have q1 : w1.frozen? ⟨w.heap.size, 1, none⟩ = false := (hb.frozen (by simp; omega)).trans (by simp [go_sem])
    have q2 : w1.frozen? ⟨w.heap.size, 2, none⟩ = false := (hb.frozen (by simp; omega)).trans (by simp [go_sem])
    have p0 : w1.frozen? ⟨w.heap.size + 1, 0, none⟩ = false := (hb.frozen (by simp)).trans (by simp [go_sem])
    have p1 : w1.frozen? ⟨w.heap.size + 1, 1, none⟩ = false := (hb.frozen (by simp)).trans (by simp [go_sem])
    have hz : w.heap.size + 1 < w1.heap.size := by simp at hs1; omega
    have hz0 : w.heap.size < w1.heap.size := by omega
    have hfin := Lib.hid ((((Below.refl w.heap.size w).alloc (Nat.le_refl _) _).alloc (by simp) _).trans (hb.mono (by simp; omega)))
    clear hb hs1
    go_wp2
    refine bodyPost_ret (v := .agg #[.int .u8 3, .string (s.extract at_ P), .int .i64 at_]) (by simp [results, Tryz.results32, go_sem, r0, r1, r2, x0, x1, x2, p0, p1, hz]) rfl ⟨rfl, ?_⟩
    repeat (first | exact hfin.out | refine Below.setCell ?_ (by simp <;> omega) _)
  | false =>
    rw [hk] at CK
    by_cases hl : x.length ≤ 12
    · have HK : Hid (K = 1) := by show _ = _; rw [hK]; unfold wordK; rw [hk, if_neg (by decide), if_neg (by omega)]; rfl
      rw [HK.out]
      have n0 : (s.extract at_ P).size = P - at_ := by rw [ByteArray.size_extract]; omega
      have n1 : decide (((P - at_ : Nat) : Int) ≤ 12) = true := decide_eq_true (by omega)
      have n2 : P - at_ ≤ 12 := by omega
      clear n0
      clear hK hk hxs HK hl
      go_enter Tryz.func32, Tryz.ntmps32
      go_wp2_with fail
      refine (CL.out _).mono ?_
      rintro e w' ⟨rfl, rfl⟩
      go_wp2_with fail
      refine (CR.out _).mono ?_
      rintro e w' ⟨rfl, rfl⟩
      go_wp2_with fail
      refine (CK.out _).mono ?_
      rintro e w1 ⟨rfl, hb⟩
      have hs1 := hb.size
      have r0 : w1.cell? ⟨w.heap.size, 0, none⟩ = some (.int .u8 0) := (hb.cell (by simp; omega)).trans (by simp [go_sem])
      have r1 : w1.cell? ⟨w.heap.size, 1, none⟩ = some (.string ⟨#[]⟩) := (hb.cell (by simp; omega)).trans (by simp [go_sem])
      have r2 : w1.cell? ⟨w.heap.size, 2, none⟩ = some (.int .i64 0) := (hb.cell (by simp; omega)).trans (by simp [go_sem])
      have x0 : w1.cell? ⟨w.heap.size + 1, 0, none⟩ = some (.int .u8 0) := (hb.cell (by simp)).trans (by simp [go_sem])
      have x1 : w1.cell? ⟨w.heap.size + 1, 1, none⟩ = some (.string (s.extract at_ P)) := (hb.cell (by simp)).trans (by simp [go_sem])
      have x2 : w1.cell? ⟨w.heap.size + 1, 2, none⟩ = some (.int .i64 at_) := (hb.cell (by simp)).trans (by simp [go_sem])
      have q0 : w1.frozen? ⟨w.heap.size, 0, none⟩ = false := (hb.frozen (by simp; omega)).trans (by simp [go_sem])
      have q1 : w1.frozen? ⟨w.heap.size, 1, none⟩ = false := (hb.frozen (by simp; omega)).trans (by simp [go_sem])
      have q2 : w1.frozen? ⟨w.heap.size, 2, none⟩ = false := (hb.frozen (by simp; omega)).trans (by simp [go_sem])
      have p0 : w1.frozen? ⟨w.heap.size + 1, 0, none⟩ = false := (hb.frozen (by simp)).trans (by simp [go_sem])
      have p1 : w1.frozen? ⟨w.heap.size + 1, 1, none⟩ = false := (hb.frozen (by simp)).trans (by simp [go_sem])
      have hz : w.heap.size + 1 < w1.heap.size := by simp at hs1; omega
      have hz0 : w.heap.size < w1.heap.size := by omega
      have hfin := Lib.hid ((((Below.refl w.heap.size w).alloc (Nat.le_refl _) _).alloc (by simp) _).trans (hb.mono (by simp; omega)))
      clear hb hs1
      go_wp2
      refine bodyPost_ret (v := .agg #[.int .u8 1, .string (s.extract at_ P), .int .i64 at_]) (by simp [results, Tryz.results32, go_sem, r0, r1, r2, x0, x1, x2, p0, p1, hz]) rfl ⟨rfl, ?_⟩
      repeat (first | exact hfin.out | refine Below.setCell ?_ (by simp <;> omega) _)
    · have HK : Hid (K = 0) := by show _ = _; rw [hK]; unfold wordK; rw [hk, if_neg (by decide), if_pos (by omega)]; rfl
      rw [HK.out]
      have n0 : (s.extract at_ P).size = P - at_ := by rw [ByteArray.size_extract]; omega
      have n1 : decide (((P - at_ : Nat) : Int) ≤ 12) = false := decide_eq_false (by omega)
      have n2 : ¬ P - at_ ≤ 12 := by omega
      clear n0
      clear hK hk hxs HK hl
      go_enter Tryz.func32, Tryz.ntmps32
      go_wp2_with fail
      refine (CL.out _).mono ?_
      rintro e w' ⟨rfl, rfl⟩
      go_wp2_with fail
      refine (CR.out _).mono ?_
      rintro e w' ⟨rfl, rfl⟩
      go_wp2_with fail
      refine (CK.out _).mono ?_
      rintro e w1 ⟨rfl, hb⟩
      have hs1 := hb.size
      have r0 : w1.cell? ⟨w.heap.size, 0, none⟩ = some (.int .u8 0) := (hb.cell (by simp; omega)).trans (by simp [go_sem])
      have r1 : w1.cell? ⟨w.heap.size, 1, none⟩ = some (.string ⟨#[]⟩) := (hb.cell (by simp; omega)).trans (by simp [go_sem])
      have r2 : w1.cell? ⟨w.heap.size, 2, none⟩ = some (.int .i64 0) := (hb.cell (by simp; omega)).trans (by simp [go_sem])
      have x0 : w1.cell? ⟨w.heap.size + 1, 0, none⟩ = some (.int .u8 0) := (hb.cell (by simp)).trans (by simp [go_sem])
      have x1 : w1.cell? ⟨w.heap.size + 1, 1, none⟩ = some (.string (s.extract at_ P)) := (hb.cell (by simp)).trans (by simp [go_sem])
      have x2 : w1.cell? ⟨w.heap.size + 1, 2, none⟩ = some (.int .i64 at_) := (hb.cell (by simp)).trans (by simp [go_sem])
      have q0 : w1.frozen? ⟨w.heap.size, 0, none⟩ = false := (hb.frozen (by simp; omega)).trans (by simp [go_sem])
      have q1 : w1.frozen? ⟨w.heap.size, 1, none⟩ = false := (hb.frozen (by simp; omega)).trans (by simp [go_sem])
      have q2 : w1.frozen? ⟨w.heap.size, 2, none⟩ = false := (hb.frozen (by simp; omega)).trans (by simp [go_sem])
      have p0 : w1.frozen? ⟨w.heap.size + 1, 0, none⟩ = false := (hb.frozen (by simp)).trans (by simp [go_sem])
      have p1 : w1.frozen? ⟨w.heap.size + 1, 1, none⟩ = false := (hb.frozen (by simp)).trans (by simp [go_sem])
      have hz : w.heap.size + 1 < w1.heap.size := by simp at hs1; omega
      have hz0 : w.heap.size < w1.heap.size := by omega
      have hfin := Lib.hid ((((Below.refl w.heap.size w).alloc (Nat.le_refl _) _).alloc (by simp) _).trans (hb.mono (by simp; omega)))
      clear hb hs1
      go_wp2
      refine bodyPost_ret (v := .agg #[.int .u8 0, .string (s.extract at_ P), .int .i64 at_]) (by simp [results, Tryz.results32, go_sem, r0, r1, r2, x0, x1, x2, p0, p1, hz]) rfl ⟨rfl, ?_⟩
      repeat (first | exact hfin.out | refine Below.setCell ?_ (by simp <;> omega) _)

set_option maxRecDepth 100000 in
set_option maxHeartbeats 4000000 in
theorem refToken_number (s : ByteArray) (at_ : Nat) (w : World) (hs : s.size ≤ 100000) (ha : at_ < s.size) (hc : cls (s[at_].toNat) = 3) (K : Nat) (x : List UInt8)
    (hx : x = (s.data.toList.drop at_).takeWhile (ofCls [3])) (hK : K = (numK x).getD 0) :
    Calls Tryz.prog 32 #[.string s, .int .i64 at_] w fun e w' => e = .returned (.agg #[.int .u8 K, .string (mkS x), .int .i64 at_]) ∧ Below w.heap.size w w' := by
  have hml : s.size ≤ maxLen := by unfold maxLen; omega
  obtain ⟨P, hP⟩ : ∃ P, P = pst (ofCls [3]) s.data.toList at_ := ⟨_, rfl⟩
  have hPt : s.extract at_ P = mkS x := by rw [hP, hx]; exact pst_text _ s at_
  have hP1 : at_ ≤ P := by rw [hP]; exact pst_ge _ _ _
  have hP2 : P ≤ s.size := by rw [hP]; have := pst_le (ofCls [3]) s.data.toList at_ (by simp; omega); simpa using this
  have CL : Hid (∀ W, Calls Tryz.prog 62 #[.int .u8 (s[at_].toNat)] W fun e w' => e = .returned (.bool false) ∧ W = w') := fun W => by
    have := isLetter_any (s[at_].toNat) W
    rw [decide_eq_false (by omega)] at this; exact this
  have CD : Hid (∀ W, Calls Tryz.prog 65 #[.int .u8 (s[at_].toNat)] W fun e w' => e = .returned (.bool true) ∧ W = w') := fun W => by
    have := isDigit_any (s[at_].toNat) W
    rw [decide_eq_true hc] at this; exact this
  have CR : Hid (∀ W, Calls Tryz.prog 63 #[.string s, .int .i64 at_, .bool false] W fun e w' => e = .returned (.int .i64 P) ∧ W = w') := fun W => by
    rw [hP]; exact run_any s at_ false W hml (by omega)
  have hxl : (s.extract at_ P).size ≤ 100000 := by rw [ByteArray.size_extract]; omega
  have CN : Hid (∀ W, Calls Tryz.prog 66 #[.string (s.extract at_ P)] W fun e w' => e = .returned (.bool (isNum x)) ∧ W = w') := fun W => by
    have := isNumber_any (s.extract at_ P) W (by unfold maxLen; omega)
    rw [hPt, mkS_list] at this; rw [hPt]; exact this
  rw [← hPt]
  clear hx hPt hc hml hP
  cases hk : isNum x with
  | true =>
    have HK : Hid (K = 2) := by show _ = _; rw [hK]; unfold numK; rw [hk]; rfl
    rw [hk] at CN
    rw [HK.out]
    clear hK hk HK
    go_enter Tryz.func32, Tryz.ntmps32
    go_wp2_with fail
    refine (CL.out _).mono ?_
    rintro e w' ⟨rfl, rfl⟩
    go_wp2_with fail
    refine (CD.out _).mono ?_
    rintro e w' ⟨rfl, rfl⟩
    go_wp2_with fail
    refine (CR.out _).mono ?_
    rintro e w' ⟨rfl, rfl⟩
    go_wp2_with fail
    refine (CN.out _).mono ?_
    rintro e w' ⟨rfl, rfl⟩
    go_wp2
    refine bodyPost_ret (v := .agg #[.int .u8 2, .string (s.extract at_ P), .int .i64 at_]) (by simp [results, Tryz.results32, go_sem]) rfl ⟨rfl, ?_⟩
    repeat (first | exact Below.refl _ _ | refine Below.setCell ?_ (by simp <;> omega) _ | refine Below.alloc ?_ (by simp <;> omega) _)
  | false =>
    have HK : Hid (K = 0) := by show _ = _; rw [hK]; unfold numK; rw [hk]; rfl
    rw [hk] at CN
    rw [HK.out]
    clear hK hk HK
    go_enter Tryz.func32, Tryz.ntmps32
    go_wp2_with fail
    refine (CL.out _).mono ?_
    rintro e w' ⟨rfl, rfl⟩
    go_wp2_with fail
    refine (CD.out _).mono ?_
    rintro e w' ⟨rfl, rfl⟩
    go_wp2_with fail
    refine (CR.out _).mono ?_
    rintro e w' ⟨rfl, rfl⟩
    go_wp2_with fail
    refine (CN.out _).mono ?_
    rintro e w' ⟨rfl, rfl⟩
    go_wp2
    refine bodyPost_ret (v := .agg #[.int .u8 0, .string (s.extract at_ P), .int .i64 at_]) (by simp [results, Tryz.results32, go_sem]) rfl ⟨rfl, ?_⟩
    repeat (first | exact Below.refl _ _ | refine Below.setCell ?_ (by simp <;> omega) _ | refine Below.alloc ?_ (by simp <;> omega) _)
end Go.Proofs.YtlhbfgkcalalkaaGreatDoor
