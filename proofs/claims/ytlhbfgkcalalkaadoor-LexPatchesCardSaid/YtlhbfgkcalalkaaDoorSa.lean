/- Scan, as a plain function; tokens in memory. -/
import Derived.Test.YtlhbfgkcalalkaaDoorRi
import Derived.Test.YtlhbfgkcalalkaaDoorRh
import Derived.Test.YtlhbfgkcalalkaaDoorWj
set_option linter.unusedVariables false
namespace Go.Proofs.YtlhbfgkcalalkaaDoor
open Go.RowKit

/-- A token: its kind, its text, its place. -/
abbrev Lx := Nat × List UInt8 × Int
def lxCells (x : Lx) : List Value := [.int .u8 x.1, .string (mkS x.2.1), .int .i64 x.2.2]
def rowCells (ls : List Lx) : List Value := ls.flatMap lxCells
theorem rowCells_length (ls : List Lx) : (rowCells ls).length = ls.length * 3 := by
  induction ls with
  | nil => rfl
  | cons x ls ih => simp [rowCells, lxCells] at ih ⊢; omega
theorem rowCells_snoc (ls : List Lx) (x : Lx) : rowCells (ls ++ [x]) = rowCells ls ++ lxCells x := by simp [rowCells]
theorem rowCells_get (ls : List Lx) (i : Nat) (hi : i < ls.length) :
    (rowCells ls)[3 * i]? = some (.int .u8 ls[i].1) ∧ (rowCells ls)[3 * i + 1]? = some (.string (mkS ls[i].2.1)) ∧ (rowCells ls)[3 * i + 2]? = some (.int .i64 ls[i].2.2) := by
  induction ls generalizing i with
  | nil => simp at hi
  | cons x ls ih =>
    cases i with
    | zero => exact ⟨rfl, rfl, rfl⟩
    | succ i =>
      have := ih i (by simpa using hi)
      have e : rowCells (x :: ls) = lxCells x ++ rowCells ls := by simp [rowCells]
      have e3 : (lxCells x).length = 3 := rfl
      rw [e, List.getElem?_append_right (by rw [e3]; omega), List.getElem?_append_right (by rw [e3]; omega), List.getElem?_append_right (by rw [e3]; omega), e3,
        show 3 * (i + 1) - 3 = 3 * i by omega, show 3 * (i + 1) + 1 - 3 = 3 * i + 1 by omega, show 3 * (i + 1) + 2 - 3 = 3 * i + 2 by omega]
      simpa using this

def isGap : UInt8 → Bool := ofCls [1]
def scanGo (p : List UInt8) : Nat → Nat → List Lx → List Lx × Nat × Nat
  | 0, _, acc => (acc, 0, 0)
  | f + 1, at_, acc =>
    if at_ < p.length then
      match tokR (p.drop at_) with
      | (none, _) => ([], at_, 4)
      | (some k, t) => if acc.length = 900 then ([], at_, 5) else scanGo p f (pst isGap p (at_ + t.length)) (acc ++ [(k, t, (at_ : Int))])
    else (acc, 0, 0)
/-- What Scan comes to: the tokens, the place of an error, the error. -/
def scanF (l : List UInt8) : List Lx × Nat × Nat :=
  if chkE l ≠ 0 then ([], chkAt l, chkE l) else scanGo (blankL l) (l.length + 1) (pst isGap (blankL l) 0) []

theorem tokR_prefix (r : List UInt8) (k : Nat) (h : (tokR r).1 = some k) : (tokR r).2 <+: r ∧ (tokR r).2 ≠ [] := by
  cases r with
  | nil => simp [tokR] at h
  | cons c r =>
    unfold tokR at h ⊢
    simp only at h ⊢
    by_cases h2 : cls c.toNat = 2
    · simp only [h2, if_true] at h ⊢
      exact ⟨List.takeWhile_prefix _, by rw [List.takeWhile_cons, if_pos (by simp [ofCls, h2])]; simp⟩
    · by_cases h3 : cls c.toNat = 3
      · simp only [h3, if_true] at h ⊢
        exact ⟨List.takeWhile_prefix _, by rw [if_neg (by decide), List.takeWhile_cons, if_pos (by simp [ofCls, h3])]; simp⟩
      · simp only [h2, h3, if_false] at h ⊢
        cases hs : signAt (c :: r) with
        | none => rw [hs] at h; simp at h
        | some t =>
          have := List.find?_some hs
          have hm := List.mem_of_find?_eq_some hs
          refine ⟨by simpa [Lib.hasPrefix] using this, ?_⟩
          have : ∀ y ∈ signsL, y ≠ [] := by decide
          exact this t hm

theorem ownsRow_below {w w' : World} {base : Nat} {e : TypeId} {size : Nat} {v : Value} {n : Nat} {xs : List Value} (h : w.ownsRow base e size v n xs) (hb : Below w.heap.size w w') : w'.ownsRow base e size v n xs := by
  refine ⟨h.1, ?_⟩
  rcases h.2 with hn | ⟨g, cap, cur, rfl, hg, hgg, rest⟩
  · exact .inl hn
  · exact .inr ⟨g, cap, cur, rfl, hg, by rw [hb.block g (Array.getElem?_eq_some_iff.1 hgg).1]; exact hgg, rest⟩
end Go.Proofs.YtlhbfgkcalalkaaDoor
