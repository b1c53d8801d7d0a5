/- LexDiffed: the edit between two texts is the least one. -/
import Derived.Test.YthmhklmoodffcaaDoorQd
import Derived.Test.YthmhklmoodffcaaDoorQa
set_option linter.unusedVariables false
set_option linter.unusedSimpArgs false
namespace Go.Proofs.YthmhklmoodffcaaDoor
open Go.RowKit Go.Shelf

theorem runF_all (p : Nat → Bool) : ∀ n i j, i ≤ j → j < runF p n i → p j = true
  | 0, i, j, h1, h2 => by rw [runF] at h2; omega
  | n + 1, i, j, h1, h2 => by
    rw [runF] at h2; split at h2
    · rename_i hp
      by_cases e : i = j
      · subst e; exact hp
      · exact runF_all p n (i + 1) j (by omega) h2
    · omega
theorem runF_stop (p : Nat → Bool) : ∀ n i, runF p n i < i + n → p (runF p n i) = false
  | 0, i, h => by rw [runF] at h; omega
  | n + 1, i, h => by
    rw [runF] at h ⊢; split at h
    · rename_i hp
      rw [if_pos hp]; exact runF_stop p n (i + 1) (by omega)
    · rename_i hp
      rw [if_neg hp]; exact (Bool.not_eq_true _).mp hp
theorem runF_ge (p : Nat → Bool) (n i m : Nat) (hm : m ≤ i + n) (h : ∀ j, i ≤ j → j < m → p j = true) : m ≤ runF p n i := by
  rcases Nat.lt_or_ge (runF p n i) m with h1 | h1
  · have hi : i ≤ runF p n i := by
      clear h hm h1
      induction n generalizing i with
      | zero => exact Nat.le_refl _
      | succ n ih => rw [runF]; split
                     · exact Nat.le_trans (Nat.le_succ _) (ih (i + 1))
                     · exact Nat.le_refl _
    have h2 := runF_stop p n i (by omega)
    rw [h _ hi h1] at h2; cases h2
  · exact h1

theorem eqAt_take {a b : List UInt8} {n : Nat} (ha : n ≤ a.length) (hb : n ≤ b.length) : a.take n = b.take n ↔ ∀ j, j < n → eqAt a b j = true := by
  constructor
  · intro h j hj
    have := congrArg (fun l => l.getD j 0) h
    simp only [List.getD_eq_getElem?_getD, List.getElem?_take, if_pos hj] at this
    simpa [eqAt, List.getD_eq_getElem?_getD] using this
  · intro h
    apply List.ext_getElem (by simp; omega)
    intro j h1 h2
    simp only [List.length_take] at h1 h2
    have := h j (by omega)
    simp only [eqAt, beq_iff_eq, List.getD_eq_getElem?_getD] at this
    rw [List.getElem?_eq_getElem (by omega), List.getElem?_eq_getElem (by omega)] at this
    simpa using this
theorem eqBack_drop {a b : List UInt8} {n : Nat} (ha : n ≤ a.length) (hb : n ≤ b.length) : a.drop (a.length - n) = b.drop (b.length - n) ↔ ∀ j, j < n → eqBack a b j = true := by
  constructor
  · intro h j hj
    have := congrArg (fun l => l.getD (n - 1 - j) 0) h
    simp only [List.getD_eq_getElem?_getD, List.getElem?_drop] at this
    rw [show a.length - n + (n - 1 - j) = a.length - 1 - j by omega, show b.length - n + (n - 1 - j) = b.length - 1 - j by omega] at this
    simpa [eqBack, List.getD_eq_getElem?_getD] using this
  · intro h
    apply List.ext_getElem (by simp; omega)
    intro j h1 h2
    simp only [List.length_drop] at h1 h2
    have := h (n - 1 - j) (by omega)
    simp only [eqBack, beq_iff_eq, List.getD_eq_getElem?_getD] at this
    rw [show a.length - 1 - (n - 1 - j) = a.length - n + j by omega, show b.length - 1 - (n - 1 - j) = b.length - n + j by omega] at this
    rw [List.getElem?_eq_getElem (by omega), List.getElem?_eq_getElem (by omega)] at this
    simpa using this

/-- What the edit between two texts keeps at both ends, and that nothing keeps more. -/
theorem diff_keeps (a b : List UInt8) : diffFrom a b + diffRest a b ≤ a.length ∧ diffFrom a b + diffRest a b ≤ b.length ∧ a.take (diffFrom a b) = b.take (diffFrom a b) ∧ a.drop (a.length - diffRest a b) = b.drop (b.length - diffRest a b) := by
  have h1 := runF_le (eqAt a b) (min a.length b.length) 0
  have h2 := runF_le (eqBack a b) (min a.length b.length - diffFrom a b) 0
  have e1 : runF (eqAt a b) (min a.length b.length) 0 = diffFrom a b := rfl
  have e2 : runF (eqBack a b) (min a.length b.length - diffFrom a b) 0 = diffRest a b := rfl
  rw [e1] at h1
  rw [e2] at h2
  refine ⟨by omega, by omega, (eqAt_take (by omega) (by omega)).2 fun j hj => runF_all _ _ 0 j (Nat.zero_le _) hj, (eqBack_drop (by omega) (by omega)).2 fun j hj => runF_all _ _ 0 j (Nat.zero_le _) hj⟩
theorem diff_best (a b : List UInt8) (i k : Nat) (h1 : i + k ≤ a.length) (h2 : i + k ≤ b.length) (hi : a.take i = b.take i) (hk : a.drop (a.length - k) = b.drop (b.length - k)) : i + k ≤ diffFrom a b + diffRest a b := by
  have c1 : i ≤ diffFrom a b := runF_ge _ _ 0 i (by omega) fun j _ hj => (eqAt_take (by omega) (by omega)).1 hi j hj
  rcases Nat.le_total k (min a.length b.length - diffFrom a b) with h | h
  · have c2 : k ≤ diffRest a b := runF_ge _ _ 0 k (by omega) fun j _ hj => (eqBack_drop (by omega) (by omega)).1 hk j hj
    omega
  · have c2 : min a.length b.length - diffFrom a b ≤ diffRest a b := runF_ge _ _ 0 _ (by omega) fun j _ hj => (eqBack_drop (by omega) (by omega)).1 hk j (by omega)
    omega

theorem ext_take (a : List UInt8) (i : Nat) : ((mkS a).extract 0 i).toList = a.take i := by
  rw [ByteArray.toList_eq, Lib.extract_data, mkS_list]; simp
theorem ext_drop (a : List UInt8) (i : Nat) : ((mkS a).extract i (mkS a).size).toList = a.drop i := by
  rw [ByteArray.toList_eq, Lib.extract_to_end, mkS_list]

set_option maxRecDepth 100000 in
set_option maxHeartbeats 4000000 in
theorem diffed_walk (a b put : List UInt8) (F T : Nat) (w : World) (he : ErrOk w) (hla : a.length ≤ 60) (hlb : b.length ≤ 60) (hlp : put.length ≤ 60) (hF : F ≤ 60) (hT : T ≤ 60)
    (CD : Hid (∀ W, Calls Tryd.prog 28 #[.string (mkS a), .string (mkS b)] W fun e w' => e = .returned (.tuple #[.agg #[.int .i64 F, .int .i64 T, .string (mkS put)], .int .i64 0]) ∧ Below W.heap.size W w'))
    (CA : Hid (∀ W, Calls Tryd.prog 24 #[.string (mkS a), .agg #[.int .i64 F, .int .i64 T, .string (mkS put)]] W fun e w' => e = .returned (.tuple #[.string (mkS b), .int .i64 0]) ∧ Below W.heap.size W w'))
    (best : Hid (∀ i k : Nat, i + k ≤ a.length → i + k ≤ b.length → a.take i = b.take i → a.drop (a.length - k) = b.drop (b.length - k) → (T : Int) - F + put.length ≤ (a.length : Int) - i - k + b.length - i - k)) :
    Calls Tryd.prog 11 #[.string (mkS a), .string (mkS b)] w fun e w' => e = .returned (.bool true) ∧ Below w.heap.size w w' := by
  have CW : Hid (∀ W, Below w.heap.size w W → Calls Tryd.prog 16 #[] W fun e w' => e = .returned (.bool true) ∧ Below W.heap.size W w') := fun W hW => awake_any W (he.below hW)
  have HSA : Hid ((mkS a).size = a.length) := mkS_size a
  have HSB : Hid ((mkS b).size = b.length) := mkS_size b
  have HSP : Hid ((mkS put).size = put.length) := mkS_size put
  have sa : (mkS a).size ≤ 60 := by rw [HSA.out]; exact hla
  have sb : (mkS b).size ≤ 60 := by rw [HSB.out]; exact hlb
  have sp : (mkS put).size ≤ 60 := by rw [HSP.out]; exact hlp
  have g1 : decide (60 < ((mkS a).size : Int)) = false := decide_eq_false (by omega)
  have g2 : decide (60 < ((mkS b).size : Int)) = false := decide_eq_false (by omega)
  clear hla hlb hlp he
  go_enter Tryd.func11, Tryd.ntmps11
  go_wp2_with fail
  refine (CD.out _).mono ?_
  rintro e w1 ⟨rfl, hb1⟩
  have HB1 := Lib.hid hb1
  clear hb1
  go_wp2_with fail
  refine (CA.out _).mono ?_
  rintro e w2 ⟨rfl, hb2⟩
  have hB2 : Below w1.heap.size w1 w2 := ((Below.refl _ _).alloc (Nat.le_refl _) _).trans (hb2.mono (by simp))
  have X0 := Lib.hid (show w2.cell? ⟨w1.heap.size, 0, none⟩ = some (.int .i64 F) from (hb2.cell (by simp)).trans (by simp [go_sem]))
  have X1 := Lib.hid (show w2.cell? ⟨w1.heap.size, 1, none⟩ = some (.int .i64 T) from (hb2.cell (by simp)).trans (by simp [go_sem]))
  have X2 := Lib.hid (show w2.cell? ⟨w1.heap.size, 2, none⟩ = some (.string (mkS put)) from (hb2.cell (by simp)).trans (by simp [go_sem]))
  have HB2 := Lib.hid (HB1.out.trans (hB2.mono HB1.out.size))
  clear hb2 hB2 CD CA
  go_wp2
  go_loopw [9] (fun c wr => ∃ i : Nat, i ≤ 61 ∧ c = .int .i64 i ∧ Hid (Below w2.heap.size w2 wr)) (fun c _ => 62 - (intOf c).toNat)
  case atStart => exact ⟨0, Nat.zero_le _, rfl, Below.refl _ _⟩
  case round =>
    obtain ⟨i, hi, rfl, hb⟩ := hrel
    have B := hb.out
    clear hb
    rcases (show (decide (i ≤ (mkS a).size) = false ∧ decide ((i : Int) ≤ ((mkS a).size : Int)) = false) ∨ (i ≤ (mkS a).size ∧ decide ((i : Int) ≤ ((mkS a).size : Int)) = true ∧ decide (i ≤ (mkS b).size) = false ∧ decide ((i : Int) ≤ ((mkS b).size : Int)) = false) ∨ (i ≤ (mkS a).size ∧ decide ((i : Int) ≤ ((mkS a).size : Int)) = true ∧ i ≤ (mkS b).size ∧ decide ((i : Int) ≤ ((mkS b).size : Int)) = true) from by
      rcases Nat.lt_or_ge (mkS a).size i with h | h
      · exact .inl ⟨decide_eq_false (by omega), decide_eq_false (by omega)⟩
      · rcases Nat.lt_or_ge (mkS b).size i with h' | h'
        · exact .inr (.inl ⟨h, decide_eq_true (by omega), decide_eq_false (by omega), decide_eq_false (by omega)⟩)
        · exact .inr (.inr ⟨h, decide_eq_true (by omega), h', decide_eq_true (by omega)⟩)) with ⟨c1, c1'⟩ | ⟨c1, c1', c2, c2'⟩ | ⟨c1, c1', c2, c2'⟩
    · skip
      go_wp2
      go_quiet (fail)
      have HB5 : Hid (∀ n, Below w.heap.size w (wr.drewN n)) := fun n => (HB2.out.trans (B.mono HB2.out.size)).trans (below_drewAt _ _ n)
      go_wp2_with fail
      refine (CW.out _ (HB5.out _)).mono ?_
      rintro e w5 ⟨rfl, hb5⟩
      have hF : Below w.heap.size w w5 := (HB5.out _).trans (hb5.mono (HB5.out _).size)
      clear hb5
      go_wp2
      go_ret
      exact ⟨ret_bool rfl, hF⟩
    · skip
      go_wp2
      go_quiet (fail)
      have HB5 : Hid (∀ n, Below w.heap.size w (wr.drewN n)) := fun n => (HB2.out.trans (B.mono HB2.out.size)).trans (below_drewAt _ _ n)
      go_wp2_with fail
      refine (CW.out _ (HB5.out _)).mono ?_
      rintro e w5 ⟨rfl, hb5⟩
      have hF : Below w.heap.size w w5 := (HB5.out _).trans (hb5.mono (HB5.out _).size)
      clear hb5
      go_wp2
      go_ret
      exact ⟨ret_bool rfl, hF⟩
    · by_cases e : a.take i = b.take i
      · have e' : (((mkS a).extract 0 i).toList == ((mkS b).extract 0 i).toList) = true := by rw [ext_take, ext_take, e]; simp
        have EI := Lib.hid e
        clear e
        go_wp2
        go_quiet (fail)
        go_wp2
        go_loopw [10] (fun c wr2 => ∃ k : Nat, k ≤ 61 ∧ c = .int .i64 k ∧ Hid (Below w2.heap.size w2 wr2)) (fun c _ => 62 - (intOf c).toNat)
        case atStart => exact ⟨0, Nat.zero_le _, rfl, B.trans (below_drewAt _ _ _)⟩
        case round =>
          obtain ⟨k, hk, rfl, hb2⟩ := hrel
          have B2 := hb2.out
          clear hb2 B
          have s0 : IntKind.i64.wrap ((i : Int) + (k : Int)) = (i : Int) + (k : Int) := IntWalk.i64_in _ (by omega)
          rcases (show (decide (i + k ≤ (mkS a).size) = false ∧ decide ((i : Int) + (k : Int) ≤ ((mkS a).size : Int)) = false) ∨ (i + k ≤ (mkS a).size ∧ decide ((i : Int) + (k : Int) ≤ ((mkS a).size : Int)) = true ∧ decide (i + k ≤ (mkS b).size) = false ∧ decide ((i : Int) + (k : Int) ≤ ((mkS b).size : Int)) = false) ∨ (i + k ≤ (mkS a).size ∧ decide ((i : Int) + (k : Int) ≤ ((mkS a).size : Int)) = true ∧ i + k ≤ (mkS b).size ∧ decide ((i : Int) + (k : Int) ≤ ((mkS b).size : Int)) = true) from by
            rcases Nat.lt_or_ge (mkS a).size (i + k) with h | h
            · exact .inl ⟨decide_eq_false (by omega), decide_eq_false (by omega)⟩
            · rcases Nat.lt_or_ge (mkS b).size (i + k) with h' | h'
              · exact .inr (.inl ⟨h, decide_eq_true (by omega), decide_eq_false (by omega), decide_eq_false (by omega)⟩)
              · exact .inr (.inr ⟨h, decide_eq_true (by omega), h', decide_eq_true (by omega)⟩)) with ⟨f1, f1'⟩ | ⟨f1, f1', f2, f2'⟩ | ⟨f1, f1', f2, f2'⟩
          · skip
            go_wp2
            go_quiet (fail)
            go_wp2
            go_roundw
            case rel => exact ⟨i + 1, by omega, by go_num, B2.trans (below_drewAt _ _ _)⟩
            case measure => simp [intOf]; omega
          · skip
            go_wp2
            go_quiet (fail)
            go_wp2
            go_roundw
            case rel => exact ⟨i + 1, by omega, by go_num, B2.trans (below_drewAt _ _ _)⟩
            case measure => simp [intOf]; omega
          · obtain ⟨x, hx⟩ : ∃ x : Nat, x = (mkS a).size - k := ⟨_, rfl⟩
            obtain ⟨y, hy⟩ : ∃ y : Nat, y = (mkS b).size - k := ⟨_, rfl⟩
            have hxl : x ≤ (mkS a).size := by omega
            have hyl : y ≤ (mkS b).size := by omega
            have ex : IntKind.i64.wrap (((mkS a).size : Int) - (k : Int)) = (x : Int) := by rw [IntWalk.i64_in _ (by omega)]; omega
            have ey : IntKind.i64.wrap (((mkS b).size : Int) - (k : Int)) = (y : Int) := by rw [IntWalk.i64_in _ (by omega)]; omega
            by_cases e : a.drop (a.length - k) = b.drop (b.length - k)
            · have e2 : (((mkS a).extract x (mkS a).size).toList == ((mkS b).extract y (mkS b).size).toList) = true := by
                rw [ext_drop, ext_drop, hx, hy, HSA.out, HSB.out, e]; simp
              have hbest := best.out i k (by rw [← HSA.out]; exact f1) (by rw [← HSB.out]; exact f2) EI.out e
              rw [← HSA.out, ← HSB.out, ← HSP.out] at hbest
              have t1 : IntKind.i64.wrap (((mkS a).size : Int) - (i : Int)) = ((mkS a).size : Int) - (i : Int) := IntWalk.i64_in _ (by omega)
              have t2 : IntKind.i64.wrap (((mkS a).size : Int) - (i : Int) - (k : Int)) = ((mkS a).size : Int) - (i : Int) - (k : Int) := IntWalk.i64_in _ (by omega)
              have t3 : IntKind.i64.wrap (((mkS a).size : Int) - (i : Int) - (k : Int) + ((mkS b).size : Int)) = ((mkS a).size : Int) - (i : Int) - (k : Int) + ((mkS b).size : Int) := IntWalk.i64_in _ (by omega)
              have t4 : IntKind.i64.wrap (((mkS a).size : Int) - (i : Int) - (k : Int) + ((mkS b).size : Int) - (i : Int)) = ((mkS a).size : Int) - (i : Int) - (k : Int) + ((mkS b).size : Int) - (i : Int) := IntWalk.i64_in _ (by omega)
              obtain ⟨L, hL⟩ : ∃ L : Int, L = ((mkS a).size : Int) - (i : Int) - (k : Int) + ((mkS b).size : Int) - (i : Int) - (k : Int) := ⟨_, rfl⟩
              obtain ⟨M, hM⟩ : ∃ M : Int, M = (T : Int) - (F : Int) + ((mkS put).size : Int) := ⟨_, rfl⟩
              have t5 : IntKind.i64.wrap (((mkS a).size : Int) - (i : Int) - (k : Int) + ((mkS b).size : Int) - (i : Int) - (k : Int)) = L := by rw [hL]; exact IntWalk.i64_in _ (by omega)
              have t6 : IntKind.i64.wrap ((T : Int) - (F : Int)) = (T : Int) - (F : Int) := IntWalk.i64_in _ (by omega)
              have t7 : IntKind.i64.wrap ((T : Int) - (F : Int) + ((mkS put).size : Int)) = M := by rw [hM]; exact IntWalk.i64_in _ (by omega)
              have t8 : decide (L < M) = false := decide_eq_false (by omega)
              have x0 := (B2.cell (cell_lt X0.out)).trans X0.out
              have x1 := (B2.cell (cell_lt X1.out)).trans X1.out
              have x2 := (B2.cell (cell_lt X2.out)).trans X2.out
              clear hx hy e hbest hL hM
              go_wp2
              go_quiet (fail)
              go_wp2
              go_roundw
              case rel => exact ⟨k + 1, by omega, by go_num, B2.trans (below_drewAt _ _ _)⟩
              case measure => simp [intOf]; omega
            · have e2 : (((mkS a).extract x (mkS a).size).toList == ((mkS b).extract y (mkS b).size).toList) = false := by
                rw [ext_drop, ext_drop, hx, hy, HSA.out, HSB.out]; simpa using e
              clear hx hy e
              go_wp2
              go_quiet (fail)
              go_wp2
              go_roundw
              case rel => exact ⟨i + 1, by omega, by go_num, B2.trans (below_drewAt _ _ _)⟩
              case measure => simp [intOf]; omega
      · have e' : (((mkS a).extract 0 i).toList == ((mkS b).extract 0 i).toList) = false := by rw [ext_take, ext_take]; simpa using e
        clear e
        go_wp2
        go_quiet (fail)
        have HB5 : Hid (∀ n, Below w.heap.size w (wr.drewN n)) := fun n => (HB2.out.trans (B.mono HB2.out.size)).trans (below_drewAt _ _ n)
        go_wp2_with fail
        refine (CW.out _ (HB5.out _)).mono ?_
        rintro e w5 ⟨rfl, hb5⟩
        have hF : Below w.heap.size w w5 := (HB5.out _).trans (hb5.mono (HB5.out _).size)
        clear hb5
        go_wp2
        go_ret
        exact ⟨ret_bool rfl, hF⟩
end Go.Proofs.YthmhklmoodffcaaDoor
