/- Lines and columns, as plain functions (no walk). -/
import Derived.Test.YtlhbfgkcalalkaaGreatDoorBa
import Derived.Lib.SplitLaws
import Derived.Lib.IndexBytes
import Derived.Lib.LastIndexByte
set_option linter.unusedVariables false
set_option linter.unusedSimpArgs false
namespace Go.Proofs.YtlhbfgkcalalkaaGreatDoor
open Go.RowKit

/-- The line and the column behind some bytes. -/
def whF : List UInt8 → Nat × Nat → Nat × Nat
  | [], p => p
  | c :: r, p => whF r (if c = 10 then (p.1 + 1, 1) else (p.1, p.2 + 1))
def whereL (l : List UInt8) (a : Nat) : Nat × Nat := whF (l.take a) (1, 1)
theorem whF_append (x y : List UInt8) (p : Nat × Nat) : whF (x ++ y) p = whF y (whF x p) := by
  induction x generalizing p with
  | nil => rfl
  | cons c x ih => rw [List.cons_append, whF, whF, ih]
theorem whereL_zero (l : List UInt8) : whereL l 0 = (1, 1) := rfl
theorem whereL_succ (l : List UInt8) (a : Nat) (h : a < l.length) : whereL l (a + 1) = if l.getD a 0 = 10 then ((whereL l a).1 + 1, 1) else ((whereL l a).1, (whereL l a).2 + 1) := by
  unfold whereL
  rw [List.take_succ_eq_append_getElem h, whF_append, whF, whF, List.getD_eq_getElem?_getD, List.getElem?_eq_getElem h]; rfl
theorem whF_line (x : List UInt8) (p : Nat × Nat) : (whF x p).1 = p.1 + x.count 10 := by
  induction x generalizing p with
  | nil => rfl
  | cons c x ih =>
    rw [whF, ih, List.count_cons]
    by_cases h : c = 10
    · rw [if_pos h, h]; simp; omega
    · rw [if_neg h, if_neg (by simpa using h)]; omega
theorem whF_col (x : List UInt8) (p : Nat × Nat) (h : ∀ c ∈ x, c ≠ 10) : whF x p = (p.1, p.2 + x.length) := by
  induction x generalizing p with
  | nil => rfl
  | cons c x ih =>
    rw [whF, if_neg (h c (List.mem_cons_self ..)), ih _ (fun d hd => h d (List.mem_cons_of_mem _ hd)), List.length_cons]
    simp; omega
theorem whereL_pos (l : List UInt8) (a : Nat) : 1 ≤ (whereL l a).1 ∧ 1 ≤ (whereL l a).2 := by
  have key : ∀ (x : List UInt8) (p : Nat × Nat), 1 ≤ p.1 ∧ 1 ≤ p.2 → 1 ≤ (whF x p).1 ∧ 1 ≤ (whF x p).2 := by
    intro x
    induction x with
    | nil => intro p h; exact h
    | cons c x ih =>
      intro p h
      rw [whF]
      refine ih _ ?_
      split
      · exact ⟨by simp only; omega, by simp⟩
      · exact ⟨by simp only; omega, by simp only; omega⟩
  exact key _ _ ⟨Nat.le_refl _, Nat.le_refl _⟩
theorem whereL_le (l : List UInt8) (a : Nat) : (whereL l a).1 ≤ l.length + 1 ∧ (whereL l a).2 ≤ l.length + 1 := by
  have key : ∀ (x : List UInt8) (p : Nat × Nat), (whF x p).1 ≤ p.1 + x.length ∧ (whF x p).2 ≤ max p.2 1 + x.length := by
    intro x
    induction x with
    | nil => intro p; exact ⟨Nat.le_refl _, by simp only [whF]; omega⟩
    | cons c x ih =>
      intro p
      rw [whF, List.length_cons]
      have := ih (if c = 10 then (p.1 + 1, 1) else (p.1, p.2 + 1))
      split at this
      · simp only at this; rename_i h; rw [if_pos h]; omega
      · simp only at this; rename_i h; rw [if_neg h]; omega
  have := key (l.take a) (1, 1)
  have hl : (l.take a).length ≤ l.length := by simp; omega
  unfold whereL; simp only at this; omega

theorem offL_cons (x : List UInt8) (xs : List (List UInt8)) : offL (x :: xs) = x.length + 1 + offL xs := by simp [offL]
/-- The place of a column of a line. -/
theorem line_place : ∀ (l : List UInt8) (k c : Nat) (p : Nat × Nat), k < (splitNl l).length → c ≤ ((splitNl l).getD k []).length →
    offL ((splitNl l).take k) + c ≤ l.length ∧ whF (l.take (offL ((splitNl l).take k) + c)) p = if k = 0 then (p.1, p.2 + c) else (p.1 + k, 1 + c)
  | [], k, c, p, hk, hc => by
    simp only [splitNl, List.length_cons, List.length_nil] at hk hc
    obtain rfl : k = 0 := by omega
    simp at hc
    subst hc
    exact ⟨by simp [offL], by simp [whF]⟩
  | d :: r, k, c, p, hk, hc => by
    by_cases h : d = 10
    · have e : splitNl (d :: r) = [] :: splitNl r := by simp only [splitNl, if_pos h]
      rw [e] at hk hc ⊢
      cases k with
      | zero =>
        simp at hc
        subst hc
        exact ⟨by simp [offL], by simp [offL, whF]⟩
      | succ k =>
        rw [List.length_cons] at hk
        have hc' : c ≤ ((splitNl r).getD k []).length := by simpa using hc
        obtain ⟨h1, h2⟩ := line_place r k c (p.1 + 1, 1) (by omega) hc'
        have eo : offL (([] :: splitNl r).take (k + 1)) + c = (offL ((splitNl r).take k) + c) + 1 := by rw [List.take_succ_cons, offL_cons, List.length_nil]; omega
        rw [eo]
        refine ⟨by rw [List.length_cons]; omega, ?_⟩
        rw [List.take_succ_cons, whF, if_pos h, h2]
        by_cases h0 : k = 0 <;> simp [h0] <;> omega
    · obtain ⟨x, xs, hx⟩ : ∃ x xs, splitNl r = x :: xs := by
        cases hr : splitNl r with
        | nil =>
          have := splitNl_off r
          rw [hr] at this; simp [offL] at this
        | cons x xs => exact ⟨x, xs, rfl⟩
      have e : splitNl (d :: r) = (d :: x) :: xs := by simp only [splitNl, if_neg h, hx]
      rw [e] at hk hc ⊢
      have ih := line_place r
      rw [hx] at ih
      cases k with
      | zero =>
        cases c with
        | zero => exact ⟨by simp [offL], by simp [offL, whF]⟩
        | succ c =>
          obtain ⟨h1, h2⟩ := ih 0 c (p.1, p.2 + 1) (by simp) (by simpa using hc)
          simp only [List.take_zero] at h1 h2 ⊢
          have eo : offL [] + (c + 1) = (offL [] + c) + 1 := by omega
          rw [eo]
          refine ⟨by rw [List.length_cons]; omega, ?_⟩
          rw [List.take_succ_cons, whF, if_neg h, h2]; simp; omega
      | succ k =>
        obtain ⟨h1, h2⟩ := ih (k + 1) c (p.1, p.2 + 1) (by simpa using hk) (by simpa using hc)
        have eo : offL (((d :: x) :: xs).take (k + 1)) + c = (offL ((x :: xs).take (k + 1)) + c) + 1 := by rw [List.take_succ_cons, List.take_succ_cons, offL_cons, offL_cons, List.length_cons]; omega
        rw [eo]
        refine ⟨by rw [List.length_cons]; omega, ?_⟩
        rw [List.take_succ_cons, whF, if_neg h, h2]; simp
/-- Each place is in a line. -/
theorem place_line : ∀ (l : List UInt8) (i : Nat), i ≤ l.length → ∃ k c, k < (splitNl l).length ∧ c ≤ ((splitNl l).getD k []).length ∧ i = offL ((splitNl l).take k) + c
  | [], i, hi => ⟨0, 0, by simp [splitNl], by simp, by simpa [offL] using hi⟩
  | d :: r, i, hi => by
    by_cases h : d = 10
    · have e : splitNl (d :: r) = [] :: splitNl r := by simp only [splitNl, if_pos h]
      rw [e]
      cases i with
      | zero => exact ⟨0, 0, by simp, by simp, by simp [offL]⟩
      | succ i =>
        obtain ⟨k, c, h1, h2, h3⟩ := place_line r i (by simpa using hi)
        exact ⟨k + 1, c, by simpa using h1, by simpa using h2, by rw [List.take_succ_cons, offL_cons, List.length_nil]; omega⟩
    · obtain ⟨x, xs, hx⟩ : ∃ x xs, splitNl r = x :: xs := by
        cases hr : splitNl r with
        | nil =>
          have := splitNl_off r
          rw [hr] at this; simp [offL] at this
        | cons x xs => exact ⟨x, xs, rfl⟩
      have e : splitNl (d :: r) = (d :: x) :: xs := by simp only [splitNl, if_neg h, hx]
      rw [e]
      cases i with
      | zero => exact ⟨0, 0, by simp, by simp, by simp [offL]⟩
      | succ i =>
        obtain ⟨k, c, h1, h2, h3⟩ := place_line r i (by simpa using hi)
        rw [hx] at h1 h2 h3
        cases k with
        | zero => exact ⟨0, c + 1, by simp, by simpa using h2, by rw [List.take_zero] at h3 ⊢; omega⟩
        | succ k => exact ⟨k + 1, c, by simpa using h1, by simpa using h2, by rw [List.take_succ_cons, offL_cons] at h3 ⊢; rw [List.length_cons]; omega⟩
theorem whereL_line (l : List UInt8) (k c : Nat) (hk : k < (splitNl l).length) (hc : c ≤ ((splitNl l).getD k []).length) : whereL l (offL ((splitNl l).take k) + c) = (k + 1, c + 1) := by
  have := (line_place l k c (1, 1) hk hc).2
  unfold whereL
  rw [this]
  split
  · rename_i h; rw [h]; simp; omega
  · simp; omega
theorem whereL_inj (l : List UInt8) (i j : Nat) (hi : i ≤ l.length) (hj : j ≤ l.length) (h : whereL l i = whereL l j) : i = j := by
  obtain ⟨k, c, h1, h2, rfl⟩ := place_line l i hi
  obtain ⟨k', c', h1', h2', rfl⟩ := place_line l j hj
  rw [whereL_line l k c h1 h2, whereL_line l k' c' h1' h2', Prod.mk.injEq] at h
  obtain ⟨e1, e2⟩ := h
  obtain rfl : k = k' := by omega
  obtain rfl : c = c' := by omega
  rfl

/-- What At comes to: the place, the error. -/
def atF (l : List UInt8) (L C : Int) : Nat × Nat :=
  if chkE l ≠ 0 then (0, chkE l)
  else if 1 ≤ L ∧ L ≤ (splitNl l).length ∧ 1 ≤ C ∧ C ≤ (((splitNl l).getD (L.toNat - 1) []).length : Int) + 1 then (offL ((splitNl l).take (L.toNat - 1)) + (C.toNat - 1), 0) else (0, 3)
theorem atF_some (l : List UInt8) (L C : Int) (h : chkE l = 0) (i : Nat) (hi : i ≤ l.length) (hw : ((whereL l i).1 : Int) = L ∧ ((whereL l i).2 : Int) = C) : atF l L C = (i, 0) := by
  obtain ⟨k, c, h1, h2, rfl⟩ := place_line l i hi
  rw [whereL_line l k c h1 h2] at hw
  simp only at hw
  obtain ⟨rfl, rfl⟩ := hw
  unfold atF
  have e1 : ((k + 1 : Nat) : Int).toNat - 1 = k := by omega
  have e2 : ((c + 1 : Nat) : Int).toNat - 1 = c := by omega
  rw [if_neg (by omega), e1, e2, if_pos ⟨by omega, by omega, by omega, by omega⟩]
theorem atF_none (l : List UInt8) (L C : Int) (h : chkE l = 0) (hw : ∀ i, i ≤ l.length → ¬ (((whereL l i).1 : Int) = L ∧ ((whereL l i).2 : Int) = C)) : atF l L C = (0, 3) := by
  unfold atF
  rw [if_neg (by omega), if_neg]
  rintro ⟨h1, h2, h3, h4⟩
  have hk : L.toNat - 1 < (splitNl l).length := by omega
  have hc : C.toNat - 1 ≤ ((splitNl l).getD (L.toNat - 1) []).length := by omega
  have hl := line_place l _ _ (1, 1) hk hc
  refine hw _ hl.1 ?_
  rw [whereL_line l _ _ hk hc]
  simp only; omega

/-- strings.Split at a line feed. -/
theorem index_nl (s : ByteArray) : Lib.indexB s ⟨#[10]⟩ = Lib.indexByte s.data.toList 10 := by
  have := Lib.index_one s.data.toList 10
  simpa [Lib.indexB] using this
theorem split_nl : ∀ (n : Nat) (s : ByteArray), s.data.toList.count 10 = n → (Lib.splitB ⟨#[10]⟩ 0 n s).map (·.data.toList) = splitNl s.data.toList
  | 0, s, h => by
    have hno : Lib.indexByte s.data.toList 10 = -1 := by
      have hge := Lib.indexByte_ge s.data.toList 10
      by_cases e : Lib.indexByte s.data.toList 10 = -1
      · exact e
      · obtain ⟨o, ho⟩ : ∃ o : Nat, Lib.indexByte s.data.toList 10 = (o : Int) := ⟨(Lib.indexByte s.data.toList 10).toNat, by omega⟩
        have := (indexByte_at ho).1
        rw [this] at h
        simp [List.count_append] at h
    rw [splitNl_none _ hno]; rfl
  | n + 1, s, h => by
    have hge := Lib.indexByte_ge s.data.toList 10
    have hne : Lib.indexByte s.data.toList 10 ≠ -1 := fun e => by
      have : s.data.toList.count 10 = 0 := List.count_eq_zero.2 (fun hm => indexByte_mem e 10 hm rfl)
      omega
    obtain ⟨o, ho⟩ : ∃ o : Nat, Lib.indexByte s.data.toList 10 = (o : Int) := ⟨(Lib.indexByte s.data.toList 10).toNat, by omega⟩
    have hat := indexByte_at ho
    have hlt : o < s.data.toList.length := by
      have := (Lib.indexByte_some ho).1
      rcases Nat.lt_or_ge o s.data.toList.length with h | h
      · exact h
      · rw [List.getElem?_eq_none h] at this; cases this
    have hrest : (s.extract (o + 1) s.size).data.toList = s.data.toList.drop (o + 1) := by
      rw [Lib.extract_data, List.take_of_length_le (by simp)]
    have hc : (s.extract (o + 1) s.size).data.toList.count 10 = n := by
      rw [hrest]
      have e := h
      rw [hat.1, List.count_append, List.count_cons_self, List.count_eq_zero.2 (fun hm => hat.2 10 hm rfl)] at e
      omega
    rw [Lib.splitB_hit ⟨#[10]⟩ 0 n s o (by rw [index_nl]; exact ho), splitNl_some _ o ho, List.map_cons, Nat.add_zero]
    have e2 : (⟨#[10]⟩ : ByteArray).size = 1 := rfl
    rw [e2, split_nl n _ hc, hrest, Lib.extract_from_zero]
/-- strings.LastIndexByte and strings.Count at a line feed. -/
theorem last_where (x : List UInt8) : ∀ b : Int, b = Lib.lastIndexByte (mkS x) 10 → (whF x (1, 1)).1 = x.count 10 + 1 ∧ ((whF x (1, 1)).2 : Int) = (x.length : Int) - (b + 1) + 1 ∧ -1 ≤ b ∧ b < x.length := by
  intro b hb
  refine ⟨by rw [whF_line]; omega, ?_⟩
  have hget : ∀ j, j < x.length → (((mkS x).data[j]!).toNat : Int) = ((x.getD j 0).toNat : Int) := fun j hj => by
    have : (mkS x).data[j]! = x.getD j 0 := by simp [mkS, List.getD_eq_getElem?_getD, hj, getElem!_pos]
    rw [this]
  have hsz : (mkS x).size = x.length := mkS_size x
  have hsp := Lib.lastIdx_spec (mkS x) 10 x.length
  have hb' : b = Lib.lastIdx (mkS x) 10 x.length := by rw [hb]; unfold Lib.lastIndexByte; rw [hsz]
  rw [← hb'] at hsp
  have h10 : ∀ c : UInt8, ((c.toNat : Nat) : Int) = 10 ↔ c = 10 := fun c => ⟨fun h => UInt8.toNat_inj.1 (by show _ = 10; omega), fun h => by rw [h]; rfl⟩
  rcases hsp with ⟨e, hn⟩ | ⟨i, hi, e, hat, hn⟩
  · have hno : ∀ c ∈ x, c ≠ 10 := fun c hc h => by
      obtain ⟨j, hj, rfl⟩ := List.mem_iff_getElem.1 hc
      refine hn j hj ?_
      rw [hget j hj, h10, List.getD_eq_getElem?_getD, List.getElem?_eq_getElem hj]; exact h
    rw [whF_col x _ hno, e]
    simp only; omega
  · have hd : x = x.take i ++ 10 :: x.drop (i + 1) := by
      have hx10 : x[i] = 10 := by
        have := hat
        rw [hget i hi, h10, List.getD_eq_getElem?_getD, List.getElem?_eq_getElem hi] at this; exact this
      rw [← hx10, ← List.drop_eq_getElem_cons hi, List.take_append_drop]
    have hno : ∀ c ∈ x.drop (i + 1), c ≠ 10 := fun c hc h => by
      obtain ⟨j, hj, rfl⟩ := List.mem_iff_getElem.1 hc
      rw [List.length_drop] at hj
      rw [List.getElem_drop] at h
      refine hn (i + 1 + j) (by omega) (by omega) ?_
      rw [hget _ (by omega), h10, List.getD_eq_getElem?_getD, List.getElem?_eq_getElem (by omega)]; exact h
    have : (whF x (1, 1)).2 = 1 + (x.drop (i + 1)).length := by
      rw [hd, whF_append, whF, if_pos rfl]
      have e3 : (x.take i ++ 10 :: x.drop (i + 1)).drop (i + 1) = x.drop (i + 1) := by rw [← hd]
      rw [e3, whF_col _ _ hno]
    rw [this, e, List.length_drop]
    omega
end Go.Proofs.YtlhbfgkcalalkaaGreatDoor
