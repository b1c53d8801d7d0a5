/- The bare text of tokens: it has the same tokens, and none of its blanks is needless (no walk). -/
import Derived.Test.YthmhklmoodffcaaDoorCa
import Derived.Test.YthmhklmoodffcaaDoorKb
set_option linter.unusedVariables false
set_option linter.unusedSimpArgs false
namespace Go.Proofs.YthmhklmoodffcaaDoor
open Go.RowKit

theorem tw_all {f : UInt8 → Bool} : ∀ {l : List UInt8}, (∀ c ∈ l, f c = true) → l.takeWhile f = l
  | [], _ => rfl
  | c :: l, h => by
    rw [List.takeWhile_cons, h c (List.mem_cons_self ..)]
    simp only [if_true]
    rw [tw_all fun d hd => h d (List.mem_cons_of_mem _ hd)]
theorem find_mono {f g : List UInt8 → Bool} {t : List UInt8} : ∀ {l : List (List UInt8)}, (∀ p, f p = true → g p = true) → f t = true → l.find? g = some t → l.find? f = some t
  | [], _, _, h => by simp at h
  | x :: l, hfg, ht, h => by
    rw [List.find?_cons] at h ⊢
    cases hg : g x with
    | true =>
      rw [hg] at h
      simp only [Option.some.injEq] at h
      subst h
      rw [ht]
    | false =>
      rw [hg] at h
      have : f x = false := by
        cases hf : f x with
        | false => rfl
        | true => rw [hfg x hf] at hg; cases hg
      rw [this]
      exact find_mono hfg ht h
/-- How a text looks that is a token. -/
theorem tok_cases {r t : List UInt8} {k : Nat} (h : tokR r = (some k, t)) :
    (∃ c r1, r = c :: r1 ∧ cls c.toNat = 2 ∧ t = r.takeWhile (ofCls [2, 3]) ∧ wordK t = some k) ∨ (∃ c r1, r = c :: r1 ∧ cls c.toNat = 3 ∧ t = r.takeWhile (ofCls [3]) ∧ numK t = some k) ∨ (∃ c r1, r = c :: r1 ∧ cls c.toNat ≠ 2 ∧ cls c.toNat ≠ 3 ∧ signAt r = some t ∧ k = 4) := by
  cases r with
  | nil => simp [tokR] at h
  | cons c r1 =>
    unfold tokR at h
    simp only at h
    by_cases h2 : cls c.toNat = 2
    · simp only [h2, if_true, Prod.mk.injEq] at h
      exact .inl ⟨c, r1, rfl, h2, h.2.symm, by rw [← h.2]; exact h.1⟩
    · by_cases h3 : cls c.toNat = 3
      · simp only [h3, if_true] at h
        rw [if_neg (by decide)] at h
        simp only [Prod.mk.injEq] at h
        exact .inr (.inl ⟨c, r1, rfl, h3, h.2.symm, by rw [← h.2]; exact h.1⟩)
      · simp only [h2, h3, if_false] at h
        refine .inr (.inr ⟨c, r1, rfl, h2, h3, ?_⟩)
        cases hs : signAt (c :: r1) with
        | none => rw [hs] at h; simp at h
        | some u =>
          rw [hs] at h
          simp only [Prod.mk.injEq, Option.some.injEq] at h
          exact ⟨by rw [h.2], h.1.symm⟩
theorem tok_word {c : UInt8} {r1 t : List UInt8} {k : Nat} (h2 : cls c.toNat = 2) (ht : (c :: r1).takeWhile (ofCls [2, 3]) = t) (hk : wordK t = some k) : tokR (c :: r1) = (some k, t) := by
  unfold tokR; simp only [h2, if_true]; rw [ht, hk]
theorem tok_num {c : UInt8} {r1 t : List UInt8} {k : Nat} (h3 : cls c.toNat = 3) (ht : (c :: r1).takeWhile (ofCls [3]) = t) (hk : numK t = some k) : tokR (c :: r1) = (some k, t) := by
  unfold tokR; simp only [h3, if_true]; rw [if_neg (by decide), ht, hk]
theorem tok_sign {c : UInt8} {r1 t : List UInt8} (h2 : cls c.toNat ≠ 2) (h3 : cls c.toNat ≠ 3) (ht : signAt (c :: r1) = some t) : tokR (c :: r1) = (some 4, t) := by
  unfold tokR; simp only [h2, h3, if_false]; rw [ht]
theorem tok_self {r t : List UInt8} {k : Nat} (h : tokR r = (some k, t)) : tokR t = (some k, t) := by
  obtain ⟨hp, hne⟩ := tokR_prefix r k (by rw [h])
  rw [h] at hp hne
  rcases tok_cases h with ⟨c, r1, rfl, h2, ht, hk⟩ | ⟨c, r1, rfl, h3, ht, hk⟩ | ⟨c, r1, rfl, h2, h3, ht, rfl⟩
  · cases t with
    | nil => exact absurd rfl hne
    | cons d t1 =>
      obtain ⟨z, hz⟩ := hp
      have hd : d = c := by simpa using congrArg List.head? hz
      subst hd
      exact tok_word h2 (tw_all fun e he => by rw [ht] at he; exact mem_tw he) hk
  · cases t with
    | nil => exact absurd rfl hne
    | cons d t1 =>
      obtain ⟨z, hz⟩ := hp
      have hd : d = c := by simpa using congrArg List.head? hz
      subst hd
      exact tok_num h3 (tw_all fun e he => by rw [ht] at he; exact mem_tw he) hk
  · cases t with
    | nil => exact absurd rfl hne
    | cons d t1 =>
      obtain ⟨z, hz⟩ := hp
      have hd : d = c := by simpa using congrArg List.head? hz
      subst hd
      refine tok_sign h2 h3 (find_mono (g := fun p => Lib.hasPrefix (d :: r1) p) (fun p hpp => ?_) (by simp [Lib.hasPrefix]) ht)
      simp only [Lib.hasPrefix, List.isPrefixOf_iff_prefix] at hpp ⊢
      exact hpp.trans ⟨z, hz⟩
/-- A text that is a token. -/
def Good (y : Lx) : Prop := tokR y.2.1 = (some y.1, y.2.1)
theorem Good.ne {y : Lx} (h : Good y) : y.2.1 ≠ [] := by
  have := (tokR_prefix y.2.1 y.1 (by rw [h])).2
  rw [h] at this; exact this
theorem Good.solid {y : Lx} (h : Good y) : ∀ c ∈ y.2.1, isGap c = false := tokR_solid h
theorem tok_kind {r a : List UInt8} {k k2 : Nat} (h : tokR r = (some k, a)) (h2 : tokR a = (some k2, a)) : k = k2 := by
  have := tok_self h
  rw [h2] at this
  simp only [Prod.mk.injEq, Option.some.injEq] at this
  exact this.1.symm
theorem tok_sep {a v : List UInt8} {k : Nat} (h : tokR a = (some k, a)) : tokR (a ++ 32 :: v) = (some k, a) := by
  rcases tok_cases h with ⟨c, r1, rfl, h2, ht, hk⟩ | ⟨c, r1, rfl, h3, ht, hk⟩ | ⟨c, r1, rfl, h2, h3, ht, rfl⟩
  · rw [List.cons_append]
    refine tok_word h2 ?_ hk
    have hall : ∀ e ∈ c :: r1, ofCls [2, 3] e = true := fun e he => by rw [ht] at he; exact mem_tw he
    rw [← List.cons_append, List.takeWhile_append_of_pos hall, List.takeWhile_cons, show ofCls [2, 3] 32 = false by decide]; simp
  · rw [List.cons_append]
    refine tok_num h3 ?_ hk
    have hall : ∀ e ∈ c :: r1, ofCls [3] e = true := fun e he => by rw [ht] at he; exact mem_tw he
    rw [← List.cons_append, List.takeWhile_append_of_pos hall, List.takeWhile_cons, show ofCls [3] 32 = false by decide]; simp
  · rw [List.cons_append]
    refine tok_sign h2 h3 ?_
    rw [← ht]
    unfold signAt
    refine find_congr _ fun p hp => ?_
    have hno : ∀ y ∈ signsL, ∀ d ∈ y, d ≠ 32 := by decide
    have h32 := hno p hp
    rw [Bool.eq_iff_iff]
    simp only [Lib.hasPrefix, List.isPrefixOf_iff_prefix]
    constructor
    · intro hh
      rw [← List.cons_append] at hh
      rcases Nat.lt_or_ge (c :: r1).length p.length with hl | hl
      · exfalso
        have hlen := hh.length_le
        have e := hh.getElem (i := (c :: r1).length) hl
        rw [List.getElem_append_right (Nat.le_refl _)] at e
        simp only [Nat.sub_self, List.getElem_cons_zero] at e
        exact h32 _ (List.getElem_mem hl) e
      · exact List.prefix_of_prefix_length_le hh (List.prefix_append _ _) hl
    · intro hh
      rw [← List.cons_append]
      exact hh.trans (List.prefix_append _ _)

/-- The bytes of tokens. -/
theorem tok_bytes {t : List UInt8} {k : Nat} (h : tokR t = (some k, t)) : ∀ c ∈ t, cls c.toNat ≠ 0 ∧ c ≠ 37 ∧ c ≠ 32 := by
  have w2 : ∀ c : UInt8, cls c.toNat = 2 ∨ cls c.toNat = 3 → cls c.toNat ≠ 0 ∧ c ≠ 37 ∧ c ≠ 32 := fun c hc => by
    refine ⟨by omega, fun e => ?_, fun e => ?_⟩
    · subst e; rcases hc with hc | hc <;> exact absurd hc (by decide)
    · subst e; rcases hc with hc | hc <;> exact absurd hc (by decide)
  rcases tok_cases h with ⟨c, r1, e, h2, ht, hk⟩ | ⟨c, r1, e, h3, ht, hk⟩ | ⟨c, r1, e, h2, h3, ht, rfl⟩
  · intro d hd
    rw [ht] at hd
    have := mem_tw hd
    simp only [ofCls, decide_eq_true_eq] at this
    exact w2 d (by simpa using this)
  · intro d hd
    rw [ht] at hd
    have := mem_tw hd
    simp only [ofCls, decide_eq_true_eq] at this
    exact w2 d (.inr (by simpa using this))
  · have hm := List.mem_of_find?_eq_some ht
    have : ∀ y ∈ signsL, ∀ d ∈ y, cls d.toNat ≠ 0 ∧ d ≠ 37 ∧ d ≠ 32 := by decide
    exact this t hm

/-- What stands between two tokens of a bare text. -/
def sepP : Option (List UInt8) → List UInt8 → List UInt8
  | none, _ => []
  | some a, b => if partsF a b then [] else [32]
/-- The bare text of tokens, behind a token. -/
def bare : Option (List UInt8) → List Lx → List UInt8
  | _, [] => []
  | q, y :: ys => sepP q y.2.1 ++ y.2.1 ++ bare (some y.2.1) ys
def prevAt (ls : List Lx) (k : Nat) : Option (List UInt8) := if k = 0 then none else some (txt ls (k - 1))
theorem joinT_bare (ls : List Lx) : ∀ n k, k + n = ls.length → joinUpto ls k ++ bare (prevAt ls k) (ls.drop k) = joinT ls
  | 0, k, h => by
    rw [List.drop_of_length_le (by omega), show k = ls.length by omega]
    simp [bare, joinT]
  | n + 1, k, h => by
    rw [List.drop_eq_getElem_cons (show k < ls.length by omega)]
    have ih := joinT_bare ls n (k + 1) (by omega)
    have ht : txt ls k = (ls[k]).2.1 := by
      unfold txt; rw [List.getD_eq_getElem?_getD, List.getElem?_eq_getElem (show k < ls.length by omega)]; rfl
    have hp : prevAt ls (k + 1) = some (ls[k]).2.1 := by unfold prevAt; rw [if_neg (by omega), Nat.add_sub_cancel, ht]
    rw [← ih, joinUpto, hp, bare, ht]
    have hs : sepP (prevAt ls k) (ls[k]).2.1 = if 0 < k && !partsF (txt ls (k - 1)) (ls[k]).2.1 then [32] else [] := by
      unfold prevAt
      by_cases h0 : k = 0
      · subst h0; simp [sepP]
      · rw [if_neg h0]
        have : decide (0 < k) = true := decide_eq_true (by omega)
        simp only [sepP, this, Bool.true_and]
        cases partsF (txt ls (k - 1)) (ls[k]).2.1 <;> simp
    rw [hs]
    simp only [List.append_assoc]
theorem joinT_eq (ls : List Lx) : joinT ls = bare none ls := by
  have := joinT_bare ls ls.length 0 (by omega)
  simpa [joinUpto, prevAt] using this.symm

theorem toks_good (p : List UInt8) : ∀ (ls : List Lx) (a : Nat), Toks p a ls → ∀ y ∈ ls, Good y
  | [], a, _, y, hy => by simp at hy
  | z :: ls, a, ⟨h1, h2, h3, h4⟩, y, hy => by
    rcases List.mem_cons.1 hy with rfl | hy
    · exact tok_self h3
    · exact toks_good p ls _ h4 y hy
theorem parts_tok {a b : List UInt8} {k : Nat} (ha : tokR a = (some k, a)) (hp : partsF a b = true) : tokR (a ++ b) = (some k, a) := by
  unfold partsF at hp
  obtain ⟨k', t', hkt⟩ : ∃ k' t', tokR (a ++ b) = (k', t') := ⟨_, _, rfl⟩
  rw [hkt] at hp
  simp only [Bool.and_eq_true, beq_iff_eq] at hp
  obtain ⟨h1, rfl⟩ := hp
  cases k' with
  | none => simp at h1
  | some k' =>
    rw [hkt, tok_kind hkt ha]
theorem tok_parts {a b v : List UInt8} {k : Nat} (hb : b ≠ []) (h : tokR (a ++ b ++ v) = (some k, a)) : partsF a b = true := by
  have hbl : 0 < b.length := List.length_pos_iff.2 hb
  have := tokR_det (r' := a ++ b) h (by simp; omega) (by rw [List.append_assoc, List.take_length_add_append, List.take_length_add_append, List.take_append_of_le_length (by omega)])
  unfold partsF
  rw [this]; simp
/-- The next token of a bare text. -/
theorem next_tok {y : Lx} (hy : Good y) (ys : List Lx) (hg : ∀ z ∈ ys, Good z) : tokR (y.2.1 ++ bare (some y.2.1) ys) = (some y.1, y.2.1) := by
  cases ys with
  | nil => rw [bare, List.append_nil]; exact hy
  | cons z ys =>
    rw [bare, sepP]
    have hz := (hg z (List.mem_cons_self ..)).ne
    have hzl : 0 < z.2.1.length := List.length_pos_iff.2 hz
    by_cases hp : partsF y.2.1 z.2.1 = true
    · rw [if_pos hp, List.nil_append]
      refine tokR_det (parts_tok hy hp) (by simp; omega) ?_
      rw [← List.append_assoc, List.take_append_of_le_length (l₁ := y.2.1 ++ z.2.1) (by simp; omega)]
    · rw [if_neg hp, List.append_assoc]
      exact tok_sep hy
end Go.Proofs.YthmhklmoodffcaaDoor
