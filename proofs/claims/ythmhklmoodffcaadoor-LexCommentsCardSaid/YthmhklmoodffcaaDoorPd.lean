/- The contract of the reference's Blank; Comments where there is an error. -/
import Derived.Test.YthmhklmoodffcaaDoorPc
import Derived.Test.YthmhklmoodffcaaDoorBb
set_option linter.unusedVariables false
set_option linter.unusedSimpArgs false
namespace Go.Proofs.YthmhklmoodffcaaDoor
open Go.RowKit Go.Shelf

/-- Whether a place stands in one of some stretches. -/
def covB (xs : List (Nat × Nat)) (i : Nat) : Bool := xs.any fun c => decide (c.1 ≤ i) && decide (i < c.2)
theorem fillN_getD (l : List UInt8) (a i : Nat) (hi : i < l.length) : ∀ k, (fillN l a k).getD i 0 = if a ≤ i ∧ i < a + k then 32 else l.getD i 0
  | 0 => by rw [if_neg (by omega)]; rfl
  | k + 1 => by
    have ih := fillN_getD l a i hi k
    have hlen : i < (fillN l a k).length := by rw [fillN_length]; exact hi
    rw [fillN]
    by_cases e : a + k = i
    · rw [if_pos (by omega), List.getD_eq_getElem?_getD, List.getElem?_set, if_pos e, if_pos (by omega)]; rfl
    · rw [List.getD_eq_getElem?_getD, List.getElem?_set, if_neg e, ← List.getD_eq_getElem?_getD, ih]
      by_cases h : a ≤ i ∧ i < a + k
      · rw [if_pos h, if_pos (by omega)]
      · rw [if_neg h, if_neg (by omega)]
theorem blankAll_getD : ∀ (xs : List (Nat × Nat)) (l : List UInt8) (i : Nat), i < l.length → (∀ c ∈ xs, c.1 ≤ c.2) → (blankAll l xs).getD i 0 = if covB xs i then 32 else l.getD i 0
  | [], l, i, hi, hx => rfl
  | c :: xs, l, i, hi, hx => by
    have hc := hx c (List.mem_cons_self ..)
    have e : blankAll l (c :: xs) = blankAll (fillN l c.1 (c.2 - c.1)) xs := rfl
    have e2 : covB (c :: xs) i = ((decide (c.1 ≤ i) && decide (i < c.2)) || covB xs i) := rfl
    rw [e, blankAll_getD xs _ i (by rw [fillN_length]; exact hi) (fun d hd => hx d (List.mem_cons_of_mem _ hd)), fillN_getD l c.1 i hi, e2]
    by_cases h : covB xs i = true
    · simp [h]
    · by_cases h2 : c.1 ≤ i ∧ i < c.2
      · rw [if_neg h, if_pos (by omega)]; simp [h2.1, h2.2]
      · rw [if_neg h, if_neg (by omega)]
        have : (decide (c.1 ≤ i) && decide (i < c.2)) = false := by rw [← Bool.not_eq_true]; simpa using h2
        simp [this, h]
theorem blankL_getD (s : List UInt8) (i : Nat) (hi : i < s.length) : (blankL s).getD i 0 = if covB (comF s) i then 32 else s.getD i 0 :=
  blankAll_getD _ _ _ hi (fun c hc => (comL_bound _ _ c hc).1)
theorem covB_snoc (xs : List (Nat × Nat)) (k i : Nat) (hk : k < xs.length) : covB (xs.take (k + 1)) i = (covB (xs.take k) i || (decide (xs[k].1 ≤ i) && decide (i < xs[k].2))) := by
  have e : xs.take (k + 1) = xs.take k ++ [xs[k]] := by rw [List.take_add_one, List.getElem?_eq_getElem hk]; rfl
  rw [covB, covB, e, List.any_append]
  simp only [List.any_cons, List.any_nil, Bool.or_false]
theorem one_byte (s : List UInt8) (k : Nat) (hk : k < s.length) : (mkS s).extract k (k + 1) = mkS [s.getD k 0] := by
  rw [← mkS_self ((mkS s).extract k (k + 1)), Lib.extract_data, mkS_list]
  congr 1
  rw [List.getD_eq_getElem?_getD, List.getElem?_eq_getElem hk]
  simp [List.take_one, List.head?_drop, List.getElem?_eq_getElem hk]
theorem take_next (t : List UInt8) (k : Nat) (hk : k < t.length) : t.take k ++ [t.getD k 0] = t.take (k + 1) := by
  rw [List.take_add_one, List.getD_eq_getElem?_getD, List.getElem?_eq_getElem hk]; rfl

set_option maxRecDepth 100000 in
set_option maxHeartbeats 2000000 in
theorem lexComments_bad (l : List UInt8) (w : World) (hs : l.length ≤ 140737488355328) (h : chkE l ≠ 0) :
    Calls Tryd.prog 19 #[.string (mkS l)] w fun e w' => e = .returned (.tuple #[.slice none 0 0, .int .i64 (chkAt l), .int .i64 (chkE l)]) ∧ Below w.heap.size w w' := by
  obtain ⟨E, hE⟩ : ∃ E : Int, E = chkE l := ⟨_, rfl⟩
  obtain ⟨A, hA⟩ : ∃ A : Int, A = chkAt l := ⟨_, rfl⟩
  have CA : Hid (∀ W, Calls Tryd.prog 45 #[.string (mkS l)] W fun e w' => e = .returned (.tuple #[.int .i64 A, .int .i64 E]) ∧ W = w') := fun W => by
    have := textError_any (mkS l) W (by rw [mkS_size]; unfold maxLen; omega)
    rw [mkS_list, ← hE, ← hA] at this; exact this
  have hb : (E != 0) = true := by rw [bne_iff_ne, hE]; omega
  rw [← hE, ← hA]
  clear h hE hA
  go_enter Tryd.func19, Tryd.ntmps19
  go_wp2_with fail
  refine (CA.out _).mono ?_
  rintro e w' ⟨rfl, rfl⟩
  go_wp2
  go_ret3
  exact ⟨rfl, Below.refl _ _⟩

set_option maxRecDepth 100000 in
set_option maxHeartbeats 2000000 in
theorem refBlank_bad (l : List UInt8) (w : World) (hs : l.length ≤ 140737488355328) (h : chkE l ≠ 0) :
    Calls Tryd.prog 22 #[.string (mkS l)] w fun e w' => e = .returned (.tuple #[.string ⟨#[]⟩, .int .i64 (chkAt l), .int .i64 (chkE l)]) ∧ Below w.heap.size w w' := by
  obtain ⟨E, hE⟩ : ∃ E : Int, E = chkE l := ⟨_, rfl⟩
  obtain ⟨A, hA⟩ : ∃ A : Int, A = chkAt l := ⟨_, rfl⟩
  have CA : Hid (∀ W, Calls Tryd.prog 21 #[.string (mkS l)] W fun e w' => e = .returned (.tuple #[.slice none 0 0, .int .i64 A, .int .i64 E]) ∧ Below W.heap.size W w') := fun W => by
    rw [hA, hE]; exact refComments_bad l W hs h
  have hb : (E != 0) = true := by rw [bne_iff_ne, hE]; omega
  rw [← hE, ← hA]
  clear h hE hA
  go_enter Tryd.func22, Tryd.ntmps22
  go_wp2_with fail
  refine (CA.out _).mono ?_
  rintro e w1 ⟨rfl, hb1⟩
  have HB := Lib.hid hb1
  clear hb1
  go_wp2
  go_ret3
  exact ⟨rfl, HB.out⟩

set_option maxRecDepth 100000 in
set_option maxHeartbeats 4000000 in
theorem refBlank_ok (s : List UInt8) (w : World) (hs : s.length ≤ 3000) (h : chkE s = 0) :
    Calls Tryd.prog 22 #[.string (mkS s)] w fun e w' => e = .returned (.tuple #[.string (mkS (blankL s)), .int .i64 0, .int .i64 0]) ∧ Below w.heap.size w w' := by
  have CC := Lib.hid fun W => refComments_ok s W hs h
  have HSZ : Hid ((mkS s).size = s.length) := mkS_size s
  have hsz : (mkS s).size ≤ 3000 := by rw [HSZ.out]; exact hs
  obtain ⟨ls, hls⟩ : ∃ ls, ls = comF s := ⟨_, rfl⟩
  have HBY : Hid (∀ i, i < s.length → (blankL s).getD i 0 = if covB ls i then 32 else s.getD i 0) := fun i hi => by rw [hls]; exact blankL_getD s i hi
  have HBL : Hid ((blankL s).length = s.length) := blankL_length s
  have hcl : ls.length ≤ s.length := by rw [hls]; exact comF_length s
  obtain ⟨n, hn⟩ : ∃ n, n = ls.length := ⟨_, rfl⟩
  have hn3 : n ≤ 3000 := by omega
  rw [← hls] at CC
  have HN := Lib.hid hn
  clear hs h hls hcl hn
  go_enter Tryd.func22, Tryd.ntmps22
  go_wp2_with fail
  refine (CC.out _).mono ?_
  rintro e w1 ⟨v, rfl, hown, hb1⟩
  have RS := readsS_own hown (by have := HN.out; omega)
  obtain ⟨p, cap, hv, _, hcells⟩ := RS
  rw [← HN.out] at hv
  subst hv
  have HB1 := Lib.hid hb1
  have HC := Lib.hid hcells
  clear hown hb1 hcells
  go_wp2
  go_loopw [8, 9] (fun out i wr => ∃ (k : Nat) (ov : ByteArray), i = .int .i64 k ∧ out = .string ov ∧ k ≤ (mkS s).size ∧ ov.size = k ∧ Hid (ov = mkS ((blankL s).take k)) ∧ Hid (Below w1.heap.size w1 wr)) (fun _ i _ => (mkS s).size - (intOf i).toNat)
  case atStart => exact ⟨0, ⟨#[]⟩, rfl, rfl, Nat.zero_le _, rfl, by show _ = _; simp [mkS], Below.refl _ _⟩
  case round =>
    obtain ⟨k, ov, rfl, rfl, hk, hov, HOV, HBR⟩ := hrel
    by_cases hlt : k < (mkS s).size
    · have d1 : decide ((k : Int) < ((mkS s).size : Int)) = true := decide_eq_true (by omega)
      have s1 : IntKind.i64.wrap ((k : Int) + 1) = (k : Int) + 1 := IntWalk.i64_in _ (by omega)
      have q0 : (0 : Int) ≤ (k : Int) := by omega
      have q1 : (k : Int) ≤ (k : Int) + 1 := by omega
      have q2 : (k : Int) + 1 ≤ ((mkS s).size : Int) := by omega
      have q4 : ((k : Int) + 1).toNat = k + 1 := by omega
      have hks : k < s.length := by rw [← HSZ.out]; exact hlt
      have HKS := Lib.hid hks
      have HX : Hid ((mkS s).extract k (k + 1) = mkS [s.getD k 0]) := one_byte s k hks
      have HX1 : Hid (((mkS s).extract k (k + 1)).size = 1) := by show _ = _; rw [HX.out, mkS_size]; rfl
      clear hks
      go_wp2
      go_loopw [10, 11] (fun b j wr2 => ∃ (jj : Nat) (bv : ByteArray), j = .int .i64 jj ∧ b = .string bv ∧ jj ≤ n ∧ bv.size = 1 ∧ Hid (bv = mkS [if covB (ls.take jj) k then 32 else s.getD k 0]) ∧ Hid (Below w1.heap.size w1 wr2)) (fun _ j _ => n - (intOf j).toNat)
      case atStart => exact ⟨0, _, rfl, rfl, Nat.zero_le _, HX1.out, by show _ = _; rw [HX.out]; rfl, HBR⟩
      case round =>
        obtain ⟨jj, bv, rfl, rfl, hj, hbv, HBV, HB2⟩ := hrel
        by_cases hjn : jj < n
        · have hcells := HC.out
          rcases hcells with h0 | ⟨bb, off, rfl, hcc⟩
          · have := HN.out; omega
          have hjl : jj < ls.length := by have := HN.out; omega
          obtain ⟨a1, a2⟩ := hcc jj hjl
          rw [← HB2.out.cell (cell_lt a1)] at a1; rw [← HB2.out.cell (cell_lt a2)] at a2
          have hcov := Lib.hid (covB_snoc ls jj k hjl)
          obtain ⟨x, hx⟩ : ∃ x, x = ls[jj] := ⟨_, rfl⟩
          rw [← hx] at a1 a2 hcov
          obtain ⟨x1, x2⟩ := x
          simp only at a1 a2 hcov
          clear hx hcc hjl
          have d2 : decide ((jj : Int) < (n : Int)) = true := decide_eq_true (by omega)
          have s2 : IntKind.i64.wrap ((jj : Int) + 1) = ((jj + 1 : Nat) : Int) := by rw [IntWalk.i64_in _ (by omega)]; omega
          by_cases e1 : x1 ≤ k
          · have t1 : decide ((x1 : Int) ≤ (k : Int)) = true := decide_eq_true (by omega)
            have t1' : (x1 : Int) ≤ (k : Int) := by omega
            by_cases e2 : k < x2
            · have t2 : decide ((k : Int) < (x2 : Int)) = true := decide_eq_true (by omega)
              have t2' : (k : Int) < (x2 : Int) := by omega
              have HCV : Hid (covB (ls.take (jj + 1)) k = true) := by show _ = _; rw [hcov.out]; simp [e1, e2]
              clear hcov e1 e2
              go_wp2
              go_roundw
              case rel => exact ⟨jj + 1, ⟨#[32]⟩, by go_num, rfl, by omega, rfl, by show _ = _; rw [HCV.out]; rfl, HB2.out⟩
              case measure => simp [intOf]; omega
            · have t2 : decide ((k : Int) < (x2 : Int)) = false := decide_eq_false (by omega)
              have t2' : ¬ ((k : Int) < (x2 : Int)) := by omega
              have HCV : Hid (covB (ls.take (jj + 1)) k = covB (ls.take jj) k) := by show _ = _; rw [hcov.out]; simp [e2]
              clear hcov e1 e2
              go_wp2
              go_roundw
              case rel => exact ⟨jj + 1, bv, by go_num, rfl, by omega, hbv, by show _ = _; rw [HCV.out]; exact HBV.out, HB2.out⟩
              case measure => simp [intOf]; omega
          · have t1 : decide ((x1 : Int) ≤ (k : Int)) = false := decide_eq_false (by omega)
            have t1' : ¬ ((x1 : Int) ≤ (k : Int)) := by omega
            have HCV : Hid (covB (ls.take (jj + 1)) k = covB (ls.take jj) k) := by show _ = _; rw [hcov.out]; simp [e1]
            clear hcov e1
            go_wp2
            go_roundw
            case rel => exact ⟨jj + 1, bv, by go_num, rfl, by omega, hbv, by show _ = _; rw [HCV.out]; exact HBV.out, HB2.out⟩
            case measure => simp [intOf]; omega
        · have d2 : decide ((jj : Int) < (n : Int)) = false := decide_eq_false (by omega)
          have HNEW : Hid (ov ++ bv = mkS ((blankL s).take (k + 1))) := by
            show _ = _
            have ht : ls.take jj = ls := List.take_of_length_le (by have := HN.out; omega)
            have hb := HBV.out
            rw [ht, ← HBY.out k HKS.out] at hb
            rw [hb, HOV.out, mkS_append, take_next _ _ (by rw [HBL.out]; exact HKS.out)]
          have hsum : (ov ++ bv).size = k + 1 := by rw [ByteArray.size_append]; omega
          have u1 : ¬ (9223372036854775807 < ov.size + bv.size) := by omega
          clear HBV HOV
          go_wp2
          go_roundw
          case rel => exact ⟨k + 1, ov ++ bv, by go_num, rfl, by omega, hsum, HNEW, HB2⟩
          case measure => simp [intOf]; omega
    · have d1 : decide ((k : Int) < ((mkS s).size : Int)) = false := decide_eq_false (by omega)
      have HE : Hid (ov = mkS (blankL s)) := by
        show _ = _; rw [HOV.out, List.take_of_length_le (by rw [HBL.out, ← HSZ.out]; omega)]
      have d1' : ¬ ((k : Int) < ((mkS s).size : Int)) := by omega
      clear HOV hov hlt
      go_wp2
      go_ret3
      exact ⟨congrArg (fun z => Ending.returned (.tuple #[.string z, .int .i64 0, .int .i64 0])) HE.out, HB1.out.trans (HBR.out.mono HB1.out.size)⟩
end Go.Proofs.YthmhklmoodffcaaDoor
