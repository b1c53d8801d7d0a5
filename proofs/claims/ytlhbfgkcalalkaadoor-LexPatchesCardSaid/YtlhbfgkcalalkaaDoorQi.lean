/- LexDiffed: the edit between two texts is the least one. -/
import Derived.Test.YtlhbfgkcalalkaaDoorQd
import Derived.Test.YtlhbfgkcalalkaaDoorQa
set_option linter.unusedVariables false
set_option linter.unusedSimpArgs false
namespace Go.Proofs.YtlhbfgkcalalkaaDoor
open Go.RowKit Go.Shelf

theorem runF_all (p : Nat → Bool) : ∀ n i j, i ≤ j → j < runF p n i → p j = true
  | 0, i, j, h1, h2 => by rw [runF] at h2; omega
  | n + 1, i, j, h1, h2 => by
    rw [runF] at h2; split at h2
    · rename_i hp
      by_cases e : i = j
      · subst e; exact hp
      · exact runF_all p n (i + 1) j (by omega) h2
    · omega
theorem runF_stop (p : Nat → Bool) : ∀ n i, runF p n i < i + n → p (runF p n i) = false
  | 0, i, h => by rw [runF] at h; omega
  | n + 1, i, h => by
    rw [runF] at h ⊢; split at h
    · rename_i hp
      rw [if_pos hp]; exact runF_stop p n (i + 1) (by omega)
    · rename_i hp
      rw [if_neg hp]; exact (Bool.not_eq_true _).mp hp
theorem runF_ge (p : Nat → Bool) (n i m : Nat) (hm : m ≤ i + n) (h : ∀ j, i ≤ j → j < m → p j = true) : m ≤ runF p n i := by
  rcases Nat.lt_or_ge (runF p n i) m with h1 | h1
  · have hi : i ≤ runF p n i := by
      clear h hm h1
      induction n generalizing i with
      | zero => exact Nat.le_refl _
      | succ n ih => rw [runF]; split
                     · exact Nat.le_trans (Nat.le_succ _) (ih (i + 1))
                     · exact Nat.le_refl _
    have h2 := runF_stop p n i (by omega)
    rw [h _ hi h1] at h2; cases h2
  · exact h1

theorem eqAt_take {a b : List UInt8} {n : Nat} (ha : n ≤ a.length) (hb : n ≤ b.length) : a.take n = b.take n ↔ ∀ j, j < n → eqAt a b j = true := by
  constructor
  · intro h j hj
    have := congrArg (fun l => l.getD j 0) h
    simp only [List.getD_eq_getElem?_getD, List.getElem?_take, if_pos hj] at this
    simpa [eqAt, List.getD_eq_getElem?_getD] using this
  · intro h
    apply List.ext_getElem (by simp; omega)
    intro j h1 h2
    simp only [List.length_take] at h1 h2
    have := h j (by omega)
    simp only [eqAt, beq_iff_eq, List.getD_eq_getElem?_getD] at this
    rw [List.getElem?_eq_getElem (by omega), List.getElem?_eq_getElem (by omega)] at this
    simpa using this
theorem eqBack_drop {a b : List UInt8} {n : Nat} (ha : n ≤ a.length) (hb : n ≤ b.length) : a.drop (a.length - n) = b.drop (b.length - n) ↔ ∀ j, j < n → eqBack a b j = true := by
  constructor
  · intro h j hj
    have := congrArg (fun l => l.getD (n - 1 - j) 0) h
    simp only [List.getD_eq_getElem?_getD, List.getElem?_drop] at this
    rw [show a.length - n + (n - 1 - j) = a.length - 1 - j by omega, show b.length - n + (n - 1 - j) = b.length - 1 - j by omega] at this
    simpa [eqBack, List.getD_eq_getElem?_getD] using this
  · intro h
    apply List.ext_getElem (by simp; omega)
    intro j h1 h2
    simp only [List.length_drop] at h1 h2
    have := h (n - 1 - j) (by omega)
    simp only [eqBack, beq_iff_eq, List.getD_eq_getElem?_getD] at this
    rw [show a.length - 1 - (n - 1 - j) = a.length - n + j by omega, show b.length - 1 - (n - 1 - j) = b.length - n + j by omega] at this
    rw [List.getElem?_eq_getElem (by omega), List.getElem?_eq_getElem (by omega)] at this
    simpa using this

/-- What the edit between two texts keeps at both ends, and that nothing keeps more. -/
theorem diff_keeps (a b : List UInt8) : diffFrom a b + diffRest a b ≤ a.length ∧ diffFrom a b + diffRest a b ≤ b.length ∧ a.take (diffFrom a b) = b.take (diffFrom a b) ∧ a.drop (a.length - diffRest a b) = b.drop (b.length - diffRest a b) := by
  have h1 := runF_le (eqAt a b) (min a.length b.length) 0
  have h2 := runF_le (eqBack a b) (min a.length b.length - diffFrom a b) 0
  have e1 : runF (eqAt a b) (min a.length b.length) 0 = diffFrom a b := rfl
  have e2 : runF (eqBack a b) (min a.length b.length - diffFrom a b) 0 = diffRest a b := rfl
  rw [e1] at h1
  rw [e2] at h2
  refine ⟨by omega, by omega, (eqAt_take (by omega) (by omega)).2 fun j hj => runF_all _ _ 0 j (Nat.zero_le _) hj, (eqBack_drop (by omega) (by omega)).2 fun j hj => runF_all _ _ 0 j (Nat.zero_le _) hj⟩
theorem diff_best (a b : List UInt8) (i k : Nat) (h1 : i + k ≤ a.length) (h2 : i + k ≤ b.length) (hi : a.take i = b.take i) (hk : a.drop (a.length - k) = b.drop (b.length - k)) : i + k ≤ diffFrom a b + diffRest a b := by
  have c1 : i ≤ diffFrom a b := runF_ge _ _ 0 i (by omega) fun j _ hj => (eqAt_take (by omega) (by omega)).1 hi j hj
  rcases Nat.le_total k (min a.length b.length - diffFrom a b) with h | h
  · have c2 : k ≤ diffRest a b := runF_ge _ _ 0 k (by omega) fun j _ hj => (eqBack_drop (by omega) (by omega)).1 hk j hj
    omega
  · have c2 : min a.length b.length - diffFrom a b ≤ diffRest a b := runF_ge _ _ 0 _ (by omega) fun j _ hj => (eqBack_drop (by omega) (by omega)).1 hk j (by omega)
    omega

theorem ext_take (a : List UInt8) (i : Nat) : ((mkS a).extract 0 i).toList = a.take i := by
  rw [ByteArray.toList_eq, Lib.extract_data, mkS_list]; simp
theorem ext_drop (a : List UInt8) (i : Nat) : ((mkS a).extract i (mkS a).size).toList = a.drop i := by
  rw [ByteArray.toList_eq, Lib.extract_to_end, mkS_list]

end Go.Proofs.YtlhbfgkcalalkaaDoor
