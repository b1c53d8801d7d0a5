/- Tokens of a text that is edited; what an edit keeps of them; Rescan, whatever is put. -/
import Derived.Test.YtlhbfgkcalalkaaDoorBa
import Derived.Test.YtlhbfgkcalalkaaDoorIb
import Derived.Test.YtlhbfgkcalalkaaDoorQi
import Derived.Test.YtlhbfgkcalalkaaDoorIc
set_option linter.unusedVariables false
set_option linter.unusedSimpArgs false
namespace Go.Proofs.YtlhbfgkcalalkaaDoor
open Go.RowKit

/-- The tokens of a text from a place on. -/
def Toks (p : List UInt8) : Nat → List Lx → Prop
  | a, [] => p.length ≤ a
  | a, y :: ls => a < p.length ∧ y.2.2 = (a : Int) ∧ tokR (p.drop a) = (some y.1, y.2.1) ∧ Toks p (pst isGap p (a + y.2.1.length)) ls
theorem toks_scan (p : List UInt8) : ∀ (f a : Nat) (acc : List Lx), (scanGo p f a acc).2.2 = 0 → p.length < a + f → ∃ ls, (scanGo p f a acc).1 = acc ++ ls ∧ Toks p a ls
  | 0, a, acc, h, hf => ⟨[], by simp [scanGo], by show p.length ≤ a; omega⟩
  | f + 1, a, acc, h, hf => by
    rw [scanGo] at h ⊢
    by_cases hlt : a < p.length
    · rw [if_pos hlt] at h ⊢
      obtain ⟨k, t, hkt⟩ : ∃ k t, tokR (p.drop a) = (k, t) := ⟨_, _, rfl⟩
      rw [hkt] at h ⊢
      cases k with
      | none => simp at h
      | some k =>
        simp only at h ⊢
        have hne := (tokR_prefix (p.drop a) k (by rw [hkt])).2
        rw [hkt] at hne
        have hpos : 0 < t.length := List.length_pos_iff.2 hne
        by_cases hl : acc.length = 900
        · rw [if_pos hl] at h; simp at h
        · rw [if_neg hl] at h ⊢
          obtain ⟨ls, h1, h2⟩ := toks_scan p f _ _ h (by have := pst_ge isGap p (a + t.length); omega)
          refine ⟨(k, t, (a : Int)) :: ls, by rw [h1]; simp, hlt, rfl, hkt, h2⟩
    · rw [if_neg hlt] at h ⊢
      exact ⟨[], by simp, by show p.length ≤ a; omega⟩
theorem scan_toks {l : List UInt8} (h : (scanF l).2.2 = 0) : chkE l = 0 ∧ Toks (blankL l) (pst isGap (blankL l) 0) (scanF l).1 := by
  have hc : chkE l = 0 := by
    by_cases e : chkE l = 0
    · exact e
    · unfold scanF at h; rw [if_pos e] at h; exact h
  refine ⟨hc, ?_⟩
  unfold scanF at h ⊢
  rw [if_neg (by omega)] at h ⊢
  obtain ⟨ls, h1, h2⟩ := toks_scan _ _ _ _ h (by rw [blankL_length]; omega)
  rw [h1]; exact h2

theorem toks_det (p : List UInt8) : ∀ (ls ms : List Lx) (a : Nat), Toks p a ls → Toks p a ms → ls = ms
  | [], [], a, _, _ => rfl
  | [], z :: ms, a, h, h' => by have h1 : p.length ≤ a := h; have := h'.1; omega
  | y :: ls, [], a, h, h' => by have h1 : p.length ≤ a := h'; have := h.1; omega
  | y :: ls, z :: ms, a, ⟨h1, h2, h3, h4⟩, ⟨g1, g2, g3, g4⟩ => by
    rw [h3] at g3
    simp only [Prod.mk.injEq, Option.some.injEq] at g3
    have e : y = z := Prod.ext g3.1 (Prod.ext g3.2 (by rw [h2, g2]))
    subst e
    rw [toks_det p ls ms _ h4 g4]
theorem toks_ge (p : List UInt8) : ∀ (ls : List Lx) (a : Nat), Toks p a ls → ∀ y ∈ ls, (a : Int) ≤ y.2.2
  | [], a, _, y, hy => by simp at hy
  | z :: ls, a, ⟨h1, h2, h3, h4⟩, y, hy => by
    rcases List.mem_cons.1 hy with rfl | hy
    · omega
    · have := toks_ge p ls _ h4 y hy
      have := pst_ge isGap p (a + z.2.1.length)
      omega

theorem take_getD {p q : List UInt8} {F : Nat} (h : p.take F = q.take F) (j : Nat) (hj : j < F) : p.getD j 0 = q.getD j 0 := by
  have := congrArg (fun l => l.getD j 0) h
  simp only [List.getD_eq_getElem?_getD, List.getElem?_take, if_pos hj] at this
  simpa [List.getD_eq_getElem?_getD] using this
theorem getD_at (l : List UInt8) (k : Nat) (hk : k < l.length) : l.getD k 0 = l[k] := by
  rw [List.getD_eq_getElem?_getD, List.getElem?_eq_getElem hk]; rfl
theorem pst_spec (f : UInt8 → Bool) (l : List UInt8) : ∀ (n k : Nat), l.length - k ≤ n → (∀ j, k ≤ j → j < pst f l k → f (l.getD j 0) = true) ∧ (pst f l k < l.length → f (l.getD (pst f l k) 0) = false)
  | 0, k, hn => by
    rw [pst_end f l k (by omega)]
    exact ⟨fun j h1 h2 => by omega, fun h => by omega⟩
  | n + 1, k, hn => by
    by_cases hk : k < l.length
    · cases hf : f l[k] with
      | true =>
        rw [pst_go f l k hk hf]
        obtain ⟨h1, h2⟩ := pst_spec f l n (k + 1) (by omega)
        refine ⟨fun j j1 j2 => ?_, h2⟩
        by_cases e : j = k
        · subst e; rw [getD_at l j hk]; exact hf
        · exact h1 j (by omega) j2
      | false =>
        rw [pst_stop f l k hk hf]
        exact ⟨fun j h1 h2 => by omega, fun _ => by rw [getD_at l k hk]; exact hf⟩
    · rw [pst_end f l k (by omega)]
      exact ⟨fun j h1 h2 => by omega, fun h => by omega⟩
theorem pst_unique (f : UInt8 → Bool) (l : List UInt8) (k c : Nat) (hkc : k ≤ c) (h1 : ∀ j, k ≤ j → j < c → f (l.getD j 0) = true) (hc : c < l.length) (h2 : f (l.getD c 0) = false) : pst f l k = c := by
  obtain ⟨s1, s2⟩ := pst_spec f l _ k (Nat.le_refl _)
  have hg := pst_ge f l k
  rcases Nat.lt_trichotomy (pst f l k) c with h | h | h
  · have := h1 _ hg h
    rw [s2 (by omega)] at this; cases this
  · exact h
  · have := s1 c hkc h
    rw [h2] at this; cases this
theorem pst_through (f : UInt8 → Bool) (l : List UInt8) (m : Nat) (hm : m ≤ l.length) : ∀ (n k : Nat), m - k ≤ n → k ≤ m → (∀ j, k ≤ j → j < m → f (l.getD j 0) = true) → pst f l k = pst f l m
  | 0, k, hn, hk, h => by rw [show k = m by omega]
  | n + 1, k, hn, hk, h => by
    by_cases e : k = m
    · rw [e]
    · have := h k (Nat.le_refl _) (by omega)
      rw [getD_at l k (by omega)] at this
      rw [pst_go f l k (by omega) this]
      exact pst_through f l m hm n (k + 1) (by omega) (by omega) fun j j1 j2 => h j (by omega) j2

theorem mem_tw {f : UInt8 → Bool} : ∀ {l : List UInt8} {c : UInt8}, c ∈ l.takeWhile f → f c = true
  | [], c, h => by simp at h
  | d :: l, c, h => by
    rw [List.takeWhile_cons] at h
    split at h
    · rename_i hd
      rcases List.mem_cons.1 h with rfl | h
      · exact hd
      · exact mem_tw h
    · simp at h
theorem takeWhile_det (f : UInt8 → Bool) {r r' t : List UInt8} (h : r.takeWhile f = t) (hn : t.length < r.length) (he : r.take (t.length + 1) = r'.take (t.length + 1)) : r'.takeWhile f = t := by
  have hp : t <+: r := by rw [← h]; exact List.takeWhile_prefix f
  have e1 : r = t ++ r.drop t.length := by
    have := List.prefix_iff_eq_take.1 hp
    conv => lhs; rw [← List.take_append_drop t.length r]
    rw [← this]
  have e2 : r.drop t.length = r[t.length] :: r.drop (t.length + 1) := List.drop_eq_getElem_cons hn
  have hall : ∀ c ∈ t, f c = true := by
    intro c hc; rw [← h] at hc
    exact mem_tw hc
  have hd : f r[t.length] = false := by
    cases hf : f r[t.length] with
    | false => rfl
    | true =>
      rw [e1, e2, List.takeWhile_append_of_pos hall, List.takeWhile_cons, hf] at h
      have := congrArg List.length h
      simp at this
  have e3 : r.take (t.length + 1) = t ++ [r[t.length]] := by
    conv => lhs; rw [e1, e2]
    rw [List.take_length_add_append]; rfl
  rw [e3] at he
  have e4 : r' = t ++ r[t.length] :: r'.drop (t.length + 1) := by
    conv => lhs; rw [← List.take_append_drop (t.length + 1) r', ← he]
    simp
  rw [e4, List.takeWhile_append_of_pos hall, List.takeWhile_cons, hd]
  simp
theorem find_congr {α : Type} {f g : α → Bool} : ∀ (l : List α), (∀ x ∈ l, f x = g x) → l.find? f = l.find? g
  | [], _ => rfl
  | x :: l, h => by
    rw [List.find?_cons, List.find?_cons, h x (List.mem_cons_self ..), find_congr l fun y hy => h y (List.mem_cons_of_mem _ hy)]
theorem signAt_det {r r' : List UInt8} (he : r.take 2 = r'.take 2) : signAt r = signAt r' := by
  unfold signAt
  refine find_congr _ fun p hp => ?_
  have hl : p.length ≤ 2 := by
    have : ∀ y ∈ signsL, y.length ≤ 2 := by decide
    exact this p hp
  have key : ∀ u : List UInt8, Lib.hasPrefix u p = decide (p = (u.take 2).take p.length) := fun u => by
    rw [Bool.eq_iff_iff]
    simp only [Lib.hasPrefix, List.isPrefixOf_iff_prefix, decide_eq_true_eq]
    rw [List.take_take, Nat.min_eq_left hl]
    exact List.prefix_iff_eq_take
  rw [key r, key r', he]
theorem tokR_det {r r' t : List UInt8} {k : Nat} (h : tokR r = (some k, t)) (hn : t.length < r.length) (he : r.take (t.length + 1) = r'.take (t.length + 1)) : tokR r' = (some k, t) := by
  obtain ⟨hp, hne⟩ := tokR_prefix r k (by rw [h])
  rw [h] at hp hne
  have hpos : 0 < t.length := List.length_pos_iff.2 hne
  cases r with
  | nil => simp at hn
  | cons c r1 =>
    cases r' with
    | nil => simp at he
    | cons c' r1' =>
      have hcc : c = c' := by
        have := congrArg List.head? he
        simpa using this
      subst hcc
      unfold tokR at h ⊢
      simp only at h ⊢
      by_cases h2 : cls c.toNat = 2
      · simp only [h2, if_true, Prod.mk.injEq] at h ⊢
        rw [takeWhile_det _ h.2 hn he]
        rw [h.2] at h
        exact ⟨h.1, rfl⟩
      · by_cases h3 : cls c.toNat = 3
        · simp only [h3, if_true] at h ⊢
          rw [if_neg (by decide)] at h ⊢
          simp only [Prod.mk.injEq] at h ⊢
          rw [takeWhile_det _ h.2 hn he]
          rw [h.2] at h
          exact ⟨h.1, rfl⟩
        · simp only [h2, h3, if_false] at h ⊢
          have h22 : (c :: r1).take 2 = (c :: r1').take 2 := by
            have := congrArg (List.take 2) he
            rw [List.take_take, List.take_take, Nat.min_eq_left (by omega)] at this
            exact this
          rw [← signAt_det h22]; exact h
theorem tokR_solid {r t : List UInt8} {k : Nat} (h : tokR r = (some k, t)) : ∀ c ∈ t, isGap c = false := by
  cases r with
  | nil => simp [tokR] at h
  | cons c r1 =>
    unfold tokR at h
    simp only at h
    by_cases h2 : cls c.toNat = 2
    · simp only [h2, if_true, Prod.mk.injEq] at h
      intro d hd
      rw [← h.2] at hd
      have := mem_tw hd
      simp only [ofCls, decide_eq_true_eq] at this
      simp only [isGap, ofCls, decide_eq_false_iff_not]
      simp at this ⊢; omega
    · by_cases h3 : cls c.toNat = 3
      · simp only [h3, if_true] at h
        rw [if_neg (by decide)] at h
        simp only [Prod.mk.injEq] at h
        intro d hd
        rw [← h.2] at hd
        have := mem_tw hd
        simp only [ofCls, decide_eq_true_eq] at this
        simp only [isGap, ofCls, decide_eq_false_iff_not]
        simp at this ⊢; omega
      · simp only [h2, h3, if_false] at h
        cases hs : signAt (c :: r1) with
        | none => rw [hs] at h; simp at h
        | some u =>
          rw [hs] at h
          simp only [Prod.mk.injEq] at h
          have hm := List.mem_of_find?_eq_some hs
          have : ∀ y ∈ signsL, ∀ d ∈ y, isGap d = false := by decide
          rw [← h.2]; exact this u hm

abbrev zLx : Lx := (0, [], 0)
theorem mem_getD {ls : List Lx} {i : Nat} (h : i < ls.length) : ls.getD i zLx ∈ ls := by
  rw [List.getD_eq_getElem?_getD, List.getElem?_eq_getElem h]; exact List.getElem_mem _

theorem toks_head (p q : List UInt8) (F : Nat) (hpq : p.take F = q.take F) (hFp : F ≤ p.length) (hFq : F ≤ q.length) : ∀ (ls ms : List Lx) (a : Nat), Toks p a ls → Toks q a ms → ∀ i, i < ls.length →
    (ls.getD i zLx).2.2 + ((ls.getD i zLx).2.1.length : Int) < F → i < ms.length ∧ ms.getD i zLx = ls.getD i zLx
  | [], ms, a, _, _, i, hi, _ => by simp at hi
  | y :: ls, ms, a, ⟨h1, h2, h3, h4⟩, hm, i, hi, hlt => by
    have hge := pst_ge isGap p (a + y.2.1.length)
    have hfirst : a + y.2.1.length < F := by
      cases i with
      | zero => simp only [List.getD_cons_zero] at hlt; omega
      | succ j =>
        simp only [List.getD_cons_succ] at hlt
        have := toks_ge p ls _ h4 _ (mem_getD (i := j) (by simpa using hi))
        omega
    have hq : tokR (q.drop a) = (some y.1, y.2.1) := by
      refine tokR_det h3 (by simp; omega) ?_
      have e : ∀ u : List UInt8, (u.drop a).take (y.2.1.length + 1) = ((u.take F).drop a).take (y.2.1.length + 1) := fun u => by
        rw [List.drop_take, List.take_take, Nat.min_eq_left (by omega)]
      rw [e p, e q, hpq]
    cases ms with
    | nil => have : q.length ≤ a := hm; omega
    | cons z ms =>
      obtain ⟨g1, g2, g3, g4⟩ := hm
      rw [hq] at g3
      simp only [Prod.mk.injEq, Option.some.injEq] at g3
      have ez : z = y := Prod.ext g3.1.symm (Prod.ext g3.2.symm (by rw [g2, h2]))
      subst ez
      cases i with
      | zero => exact ⟨by simp, by simp⟩
      | succ j =>
        simp only [List.getD_cons_succ] at hlt ⊢
        have hj : j < ls.length := by simpa using hi
        have hmem := toks_ge p ls _ h4 _ (mem_getD (i := j) hj)
        have hap : pst isGap p (a + z.2.1.length) < F := by omega
        obtain ⟨s1, s2⟩ := pst_spec isGap p _ (a + z.2.1.length) (Nat.le_refl _)
        have e : pst isGap q (a + z.2.1.length) = pst isGap p (a + z.2.1.length) := by
          refine pst_unique isGap q _ _ hge (fun j j1 j2 => ?_) (by omega) ?_
          · rw [← take_getD hpq j (by omega)]; exact s1 j j1 j2
          · rw [← take_getD hpq _ hap]; exact s2 (by omega)
        rw [e] at g4
        have := toks_head p q F hpq hFp hFq ls ms _ h4 g4 j hj hlt
        exact ⟨by simpa using this.1, this.2⟩

theorem toks_cut (p : List UInt8) (j : Nat) (hj : j < p.length) (h10 : p.getD j 0 = 10) : ∀ (ls : List Lx) (a : Nat), Toks p a ls → (a < j ∨ a = pst isGap p (j + 1)) →
    ∃ l1 l2, ls = l1 ++ l2 ∧ Toks p (pst isGap p (j + 1)) l2 ∧ ∀ y ∈ l1, y.2.2 < (j : Int)
  | [], a, h, hs => by
    have h1 : p.length ≤ a := h
    refine ⟨[], [], rfl, ?_, by simp⟩
    rcases hs with hs | hs
    · omega
    · rw [← hs]; exact h
  | y :: ls, a, h, hs => by
    by_cases ha : a = pst isGap p (j + 1)
    · exact ⟨[], y :: ls, rfl, by rw [← ha]; exact h, by simp⟩
    · have haj : a < j := hs.resolve_right ha
      obtain ⟨h1, h2, h3, h4⟩ := h
      have hpre := (tokR_prefix (p.drop a) y.1 (by rw [h3])).1
      rw [h3] at hpre
      have hpl := hpre.length_le
      have hle : a + y.2.1.length ≤ j := by
        refine Nat.le_of_not_lt fun hlt => ?_
        have hin : j - a < y.2.1.length := by omega
        have hs := tokR_solid h3 y.2.1[j - a] (List.getElem_mem _)
        have he : y.2.1[j - a] = p.getD j 0 := by
          have := hpre.getElem hin
          rw [List.getElem_drop] at this
          rw [getD_at p j hj]
          rw [this]
          congr 1; omega
        rw [he, h10] at hs
        exact absurd hs (by decide)
      have g10 : isGap (p.getD j 0) = true := by rw [h10]; decide
      have hnext : pst isGap p (a + y.2.1.length) < j ∨ pst isGap p (a + y.2.1.length) = pst isGap p (j + 1) := by
        rcases Nat.lt_or_ge (pst isGap p (a + y.2.1.length)) j with h | h
        · exact .inl h
        · refine .inr (pst_through isGap p (j + 1) (by omega) _ _ (Nat.le_refl _) (by omega) fun i i1 i2 => ?_)
          obtain ⟨s1, s2⟩ := pst_spec isGap p _ (a + y.2.1.length) (Nat.le_refl _)
          by_cases e : i = j
          · rw [e]; exact g10
          · exact s1 i i1 (by omega)
      obtain ⟨l1, l2, e1, e2, e3⟩ := toks_cut p j hj h10 ls _ h4 hnext
      refine ⟨y :: l1, l2, by rw [e1]; rfl, e2, fun z hz => ?_⟩
      rcases List.mem_cons.1 hz with rfl | hz
      · omega
      · exact e3 z hz
theorem toks_cut0 (p : List UInt8) (j : Nat) (hj : j < p.length) (h10 : p.getD j 0 = 10) (ls : List Lx) (h : Toks p (pst isGap p 0) ls) :
    ∃ l1 l2, ls = l1 ++ l2 ∧ Toks p (pst isGap p (j + 1)) l2 ∧ ∀ y ∈ l1, y.2.2 < (j : Int) := by
  refine toks_cut p j hj h10 ls _ h ?_
  have g10 : isGap (p.getD j 0) = true := by rw [h10]; decide
  rcases Nat.lt_or_ge (pst isGap p 0) j with h | h
  · exact .inl h
  · refine .inr (pst_through isGap p (j + 1) (by omega) _ _ (Nat.le_refl _) (by omega) fun i i1 i2 => ?_)
    obtain ⟨s1, s2⟩ := pst_spec isGap p _ 0 (Nat.le_refl _)
    by_cases e : i = j
    · rw [e]; exact g10
    · exact s1 i i1 (by omega)

/-- A token that stands further on. -/
def movT (G : Int) (y : Lx) : Lx := (y.1, y.2.1, y.2.2 + G)
theorem toks_shift (p q : List UInt8) : ∀ (ls : List Lx) (a b : Nat), p.drop a = q.drop b → a ≤ p.length → b ≤ q.length → Toks p a ls → Toks q b (ls.map (movT ((b : Int) - a)))
  | [], a, b, hd, ha, hb, h => by
    have h1 : p.length ≤ a := h
    have := congrArg List.length hd
    simp only [List.length_drop] at this
    show q.length ≤ b
    omega
  | y :: ls, a, b, hd, ha, hb, ⟨h1, h2, h3, h4⟩ => by
    have hl := congrArg List.length hd
    simp only [List.length_drop] at hl
    have hpre := (tokR_prefix (p.drop a) y.1 (by rw [h3])).1
    rw [h3] at hpre
    have hpl := hpre.length_le
    simp only [List.length_drop] at hpl
    have e : p.drop (a + y.2.1.length) = q.drop (b + y.2.1.length) := by rw [← List.drop_drop, ← List.drop_drop, hd]
    have ea : pst isGap p (a + y.2.1.length) = a + (y.2.1.length + ((p.drop (a + y.2.1.length)).takeWhile isGap).length) := by unfold pst; omega
    have eb : pst isGap q (b + y.2.1.length) = b + (y.2.1.length + ((p.drop (a + y.2.1.length)).takeWhile isGap).length) := by unfold pst; rw [← e]; omega
    obtain ⟨W, hW⟩ : ∃ W, W = y.2.1.length + ((p.drop (a + y.2.1.length)).takeWhile isGap).length := ⟨_, rfl⟩
    rw [← hW] at ea eb
    have hpa := pst_le isGap p (a + y.2.1.length) (by omega)
    have hqb := pst_le isGap q (b + y.2.1.length) (by omega)
    refine ⟨by omega, by show y.2.2 + _ = _; omega, by rw [← hd]; exact h3, ?_⟩
    have ih := toks_shift p q ls _ _ (by rw [ea, eb, ← List.drop_drop, ← List.drop_drop, hd]) hpa hqb h4
    rw [show ((pst isGap q (b + y.2.1.length) : Nat) : Int) - (pst isGap p (a + y.2.1.length) : Nat) = (b : Int) - a by rw [ea, eb]; omega] at ih
    exact ih

/-- Whether a comment goes on behind a text. -/
def endsIn : Bool → List UInt8 → Bool
  | b, [] => b
  | b, c :: r => if c = 10 then endsIn false r else if b = true ∨ c = 37 then endsIn true r else endsIn false r
theorem blankF_append : ∀ (u v : List UInt8) (b : Bool), blankF b (u ++ v) = blankF b u ++ blankF (endsIn b u) v
  | [], v, b => rfl
  | c :: u, v, b => by
    rw [List.cons_append, blankF, blankF, endsIn]
    split
    · rw [blankF_append u v]; rfl
    · split
      · rw [blankF_append u v]; rfl
      · rw [blankF_append u v]; rfl
theorem blank_take {s t : List UInt8} {F : Nat} (h : s.take F = t.take F) : (blankF false s).take F = (blankF false t).take F := by
  rcases Nat.le_total F s.length with hs | hs
  · rcases Nat.le_total F t.length with ht | ht
    · have key : ∀ u : List UInt8, F ≤ u.length → (blankF false u).take F = blankF false (u.take F) := fun u hu => by
        conv => lhs; rw [← List.take_append_drop F u, blankF_append]
        rw [List.take_left' (by rw [blankF_length]; simp; omega)]
      rw [key s hs, key t ht, h]
    · have : s.take F = t := by rw [h, List.take_of_length_le ht]
      have hl := congrArg List.length this
      simp only [List.length_take] at hl
      have key : ∀ u : List UInt8, F ≤ u.length → (blankF false u).take F = blankF false (u.take F) := fun u hu => by
        conv => lhs; rw [← List.take_append_drop F u, blankF_append]
        rw [List.take_left' (by rw [blankF_length]; simp; omega)]
      rw [key s hs, key t (by omega), h]
  · have : t.take F = s := by rw [← h, List.take_of_length_le hs]
    have hl := congrArg List.length this
    simp only [List.length_take] at hl
    rw [List.take_of_length_le (by rw [blankF_length]; exact hs)]
    conv => rhs; rw [← List.take_append_drop F t, blankF_append]
    rcases Nat.le_total F t.length with ht | ht
    · rw [List.take_left' (by rw [blankF_length]; simp; omega), this]
    · rw [← blankF_append, List.take_append_drop, List.take_of_length_le (by rw [blankF_length]; exact ht)]
      rw [← this, List.take_of_length_le ht]
theorem blank_feed (u v : List UInt8) : (blankF false (u ++ 10 :: v)).drop u.length = 10 :: blankF false v := by
  rw [blankF_append, List.drop_left' (blankF_length _ _)]
  simp [blankF]
end Go.Proofs.YtlhbfgkcalalkaaDoor

namespace Go.Proofs.YtlhbfgkcalalkaaDoor
open Go.RowKit

theorem spL_len (s put : List UInt8) (F T : Nat) (h1 : F ≤ T) (h2 : T ≤ s.length) : (splF s ((F : Int), (T : Int), put)).length + T = s.length + F + put.length := by
  unfold splF; simp; omega
theorem spL_take (s put : List UInt8) (F T : Nat) (h1 : F ≤ T) (h2 : T ≤ s.length) : (splF s ((F : Int), (T : Int), put)).take F = s.take F := by
  show (s.take F ++ put ++ s.drop T).take F = _
  rw [List.append_assoc, List.take_left' (by simp; omega)]
theorem spL_drop (s put : List UInt8) (F T k : Nat) (h1 : F ≤ T) (h2 : T ≤ s.length) : (splF s ((F : Int), (T : Int), put)).drop (F + put.length + k) = s.drop (T + k) := by
  show (s.take F ++ put ++ s.drop T).drop _ = _
  rw [← List.drop_drop, List.drop_left' (by simp; omega), List.drop_drop]

theorem getD_left {a b : List Lx} {i : Nat} (h : i < a.length) : (a ++ b).getD i zLx = a.getD i zLx := by
  rw [List.getD_eq_getElem?_getD, List.getD_eq_getElem?_getD, List.getElem?_append_left h]
theorem getD_right {a b : List Lx} {i : Nat} : (a ++ b).getD (a.length + i) zLx = b.getD i zLx := by
  rw [List.getD_eq_getElem?_getD, List.getD_eq_getElem?_getD, List.getElem?_append_right (by omega), Nat.add_sub_cancel_left]

theorem toks_sorted (p : List UInt8) : ∀ (ls : List Lx) (a i k : Nat), Toks p a ls → i < k → k < ls.length → (ls.getD i zLx).2.2 + ((ls.getD i zLx).2.1.length : Int) ≤ (ls.getD k zLx).2.2
  | [], a, i, k, _, _, hk => by simp at hk
  | y :: ls, a, i, k, ⟨h1, h2, h3, h4⟩, hik, hk => by
    cases k with
    | zero => omega
    | succ k =>
      have hk' : k < ls.length := by simpa using hk
      cases i with
      | zero =>
        have := toks_ge p ls _ h4 _ (mem_getD (i := k) hk')
        have := pst_ge isGap p (a + y.2.1.length)
        simp only [List.getD_cons_zero, List.getD_cons_succ]
        omega
      | succ i =>
        simp only [List.getD_cons_succ]
        exact toks_sorted p ls _ i k h4 (by omega) hk'

theorem kept_head (s put : List UInt8) (F T : Nat) (h1 : F ≤ T) (h2 : T ≤ s.length) (hs : (scanF s).2.2 = 0) (ht : (scanF (splF s ((F : Int), (T : Int), put))).2.2 = 0) (k : Nat) (hk : k < (scanF s).1.length)
    (he : ((scanF s).1.getD k zLx).2.2 + (((scanF s).1.getD k zLx).2.1.length : Int) < F) : k < headF (scanF s).1 (scanF (splF s ((F : Int), (T : Int), put))).1 F := by
  obtain ⟨t, htt⟩ : ∃ t, t = splF s ((F : Int), (T : Int), put) := ⟨_, rfl⟩
  have hlen := spL_len s put F T h1 h2
  have htk := spL_take s put F T h1 h2
  rw [← htt] at ht hlen htk ⊢
  obtain ⟨c1, k1⟩ := scan_toks hs
  obtain ⟨c2, k2⟩ := scan_toks ht
  obtain ⟨L, hL⟩ : ∃ L, L = (scanF s).1 := ⟨_, rfl⟩
  obtain ⟨M, hM⟩ : ∃ M, M = (scanF t).1 := ⟨_, rfl⟩
  rw [← hL] at hk he k1 ⊢
  rw [← hM] at k2 ⊢
  have hpq : (blankL s).take F = (blankL t).take F := by rw [blankL_eq, blankL_eq]; exact blank_take htk.symm
  have hFp : F ≤ (blankL s).length := by rw [blankL_length]; omega
  have hFq : F ≤ (blankL t).length := by rw [blankL_length]; omega
  have hmem := toks_ge _ _ _ k1 _ (mem_getD hk)
  obtain ⟨s1, s2⟩ := pst_spec isGap (blankL s) _ 0 (Nat.le_refl _)
  have e0 : pst isGap (blankL t) 0 = pst isGap (blankL s) 0 := by
    refine pst_unique isGap _ 0 _ (Nat.zero_le _) (fun j j1 j2 => ?_) (by omega) ?_
    · rw [← take_getD hpq j (by omega)]; exact s1 j j1 j2
    · rw [← take_getD hpq _ (by omega)]; exact s2 (by omega)
  rw [e0] at k2
  have key : ∀ i, i ≤ k → i < M.length ∧ M.getD i zLx = L.getD i zLx ∧ (L.getD i zLx).2.2 < F := fun i hi => by
    have hle : (L.getD i zLx).2.2 + ((L.getD i zLx).2.1.length : Int) < F := by
      rcases Nat.lt_or_ge i k with h | h
      · have := toks_sorted _ L _ i k k1 h hk
        omega
      · rw [show i = k by omega]; exact he
    have := toks_head _ _ F hpq hFp hFq L M _ k1 k2 i (by omega) hle
    exact ⟨this.1, this.2, by omega⟩
  have : k + 1 ≤ headF L M F := runF_ge _ _ 0 (k + 1) (by have := (key k (Nat.le_refl _)).1; omega) fun i _ hi => by
    obtain ⟨a1, a2, a3⟩ := key i (by omega)
    simp only [headP, Bool.and_eq_true, decide_eq_true_eq, beq_iff_eq]
    exact ⟨a3, a2.symm⟩
  omega

theorem feed_split (s : List UInt8) (j : Nat) (hj : j < s.length) (h10 : s.getD j 0 = 10) : (blankL s).drop j = 10 :: blankF false (s.drop (j + 1)) := by
  have e : s = s.take j ++ 10 :: s.drop (j + 1) := by
    conv => lhs; rw [← List.take_append_drop j s, List.drop_eq_getElem_cons hj]
    rw [getD_at s j hj] at h10
    rw [h10]
  have hl : (s.take j).length = j := by simp; omega
  have := blank_feed (s.take j) (s.drop (j + 1))
  rw [hl, ← e] at this
  rw [blankL_eq]; exact this

theorem kept_tail (s put : List UInt8) (F T : Nat) (h1 : F ≤ T) (h2 : T ≤ s.length) (hs : (scanF s).2.2 = 0) (ht : (scanF (splF s ((F : Int), (T : Int), put))).2.2 = 0) (j : Nat) (hTj : T ≤ j) (hj : j < s.length) (h10 : s.getD j 0 = 10)
    (k : Nat) (hk : k < (scanF s).1.length) (he : (j : Int) < ((scanF s).1.getD k zLx).2.2) :
    (scanF s).1.length ≤ k + tailF (scanF s).1 (scanF (splF s ((F : Int), (T : Int), put))).1 T (((splF s ((F : Int), (T : Int), put)).length : Int) - s.length) := by
  obtain ⟨t, htt⟩ : ∃ t, t = splF s ((F : Int), (T : Int), put) := ⟨_, rfl⟩
  have hlen := spL_len s put F T h1 h2
  have hdr := spL_drop s put F T (j - T) h1 h2
  rw [← htt] at ht hlen hdr ⊢
  rw [show T + (j - T) = j by omega] at hdr
  obtain ⟨j', hj'⟩ : ∃ j', j' = F + put.length + (j - T) := ⟨_, rfl⟩
  rw [← hj'] at hdr
  have hjt : j' < t.length := by omega
  have hG : ((t.length : Int) - s.length) = (j' : Int) - j := by omega
  have h10' : t.getD j' 0 = 10 := by
    have := congrArg (fun l => l.getD 0 0) hdr
    simp only [List.getD_eq_getElem?_getD, List.getElem?_drop, Nat.add_zero] at this
    rw [List.getD_eq_getElem?_getD, this, ← List.getD_eq_getElem?_getD]; exact h10
  obtain ⟨c1, k1⟩ := scan_toks hs
  obtain ⟨c2, k2⟩ := scan_toks ht
  obtain ⟨L, hL⟩ : ∃ L, L = (scanF s).1 := ⟨_, rfl⟩
  obtain ⟨M, hM⟩ : ∃ M, M = (scanF t).1 := ⟨_, rfl⟩
  rw [← hL] at hk he k1 ⊢
  rw [← hM] at k2 ⊢
  rw [hG]
  have p1 := feed_split s j hj h10
  have p2 := feed_split t j' hjt h10'
  have hdr1 : t.drop (j' + 1) = s.drop (j + 1) := by rw [← List.drop_drop, ← List.drop_drop, hdr]
  rw [hdr1] at p2
  have hpq : (blankL s).drop (j + 1) = (blankL t).drop (j' + 1) := by rw [← List.drop_drop, ← List.drop_drop, p1, p2]
  have hb1 : (blankL s).getD j 0 = 10 := by
    have := congrArg (fun l => l.getD 0 0) p1
    simp only [List.getD_eq_getElem?_getD, List.getElem?_drop, Nat.add_zero] at this
    rw [List.getD_eq_getElem?_getD, this]; rfl
  have hb2 : (blankL t).getD j' 0 = 10 := by
    have := congrArg (fun l => l.getD 0 0) p2
    simp only [List.getD_eq_getElem?_getD, List.getElem?_drop, Nat.add_zero] at this
    rw [List.getD_eq_getElem?_getD, this]; rfl
  obtain ⟨l1, l2, e1, e2, e3⟩ := toks_cut0 (blankL s) j (by rw [blankL_length]; exact hj) hb1 L k1
  obtain ⟨m1, m2, f1, f2, f3⟩ := toks_cut0 (blankL t) j' (by rw [blankL_length]; exact hjt) hb2 M k2
  obtain ⟨W, hW⟩ : ∃ W, W = 1 + (((blankL s).drop (j + 1)).takeWhile isGap).length := ⟨_, rfl⟩
  have ea : pst isGap (blankL s) (j + 1) = j + W := by unfold pst; omega
  have eb : pst isGap (blankL t) (j' + 1) = j' + W := by unfold pst; rw [← hpq]; omega
  have hla := pst_le isGap (blankL s) (j + 1) (by rw [blankL_length]; omega)
  have hlb := pst_le isGap (blankL t) (j' + 1) (by rw [blankL_length]; omega)
  have hdd : (blankL s).drop (pst isGap (blankL s) (j + 1)) = (blankL t).drop (pst isGap (blankL t) (j' + 1)) := by
    rw [ea, eb, show j + W = j + 1 + (W - 1) by omega, show j' + W = j' + 1 + (W - 1) by omega, ← List.drop_drop (i := W - 1) (j := j + 1), ← List.drop_drop (i := W - 1) (j := j' + 1), hpq]
  have hsh := toks_shift (blankL s) (blankL t) l2 _ _ hdd hla hlb e2
  rw [show ((pst isGap (blankL t) (j' + 1) : Nat) : Int) - (pst isGap (blankL s) (j + 1) : Nat) = (j' : Int) - j by rw [ea, eb]; omega] at hsh
  have hm2 := toks_det _ _ _ _ f2 hsh
  have hk1 : l1.length ≤ k := by
    refine Nat.le_of_not_lt fun hlt => ?_
    have : L.getD k zLx = l1.getD k zLx := by rw [e1, getD_left hlt]
    have h := e3 _ (mem_getD hlt)
    rw [← this] at h
    omega
  have hml : m2.length = l2.length := by rw [hm2, List.length_map]
  have hLl : L.length = l1.length + l2.length := by rw [e1, List.length_append]
  have hMl : M.length = m1.length + l2.length := by rw [f1, List.length_append, hml]
  have : l2.length ≤ tailF L M T ((j' : Int) - j) := runF_ge _ _ 0 _ (by omega) fun i _ hi => by
    have g1 : L.getD (L.length - 1 - i) zLx = l2.getD (l2.length - 1 - i) zLx := by
      rw [show L.length - 1 - i = l1.length + (l2.length - 1 - i) by omega, e1, getD_right]
    have g2 : M.getD (M.length - 1 - i) zLx = movT ((j' : Int) - j) (l2.getD (l2.length - 1 - i) zLx) := by
      rw [show M.length - 1 - i = m1.length + (l2.length - 1 - i) by omega, f1, getD_right, hm2]
      rw [List.getD_eq_getElem?_getD, List.getElem?_map, List.getD_eq_getElem?_getD, List.getElem?_eq_getElem (show l2.length - 1 - i < l2.length by omega)]
      rfl
    have g3 := toks_ge _ _ _ e2 _ (mem_getD (ls := l2) (i := l2.length - 1 - i) (by omega))
    have hpge := pst_ge isGap (blankL s) (j + 1)
    simp only [tailP, Bool.and_eq_true, decide_eq_true_eq, beq_iff_eq]
    rw [g1, g2]
    exact ⟨by omega, rfl⟩
  omega

theorem apartL (old now : List Lx) (F T G : Int) (hFT : F ≤ T) : headF old now F + tailF old now T G ≤ old.length := by
  have hh := runF_le (headP old now F) (min old.length now.length) 0
  have ht := runF_le (tailP old now T G) (min old.length now.length) 0
  refine Nat.le_of_not_lt fun hlt => ?_
  have h1 := runF_true (headP old now F) (min old.length now.length) 0 (old.length - tailF old now T G) (Nat.zero_le _) (by unfold headF at hlt; unfold tailF at hlt ⊢; omega)
  have h2 := runF_true (tailP old now T G) (min old.length now.length) 0 (tailF old now T G - 1) (Nat.zero_le _) (by unfold headF at hlt; unfold tailF at hlt ⊢; omega)
  simp only [headP, tailP, Bool.and_eq_true, decide_eq_true_eq, beq_iff_eq] at h1 h2
  have e : old.length - 1 - (tailF old now T G - 1) = old.length - tailF old now T G := by unfold headF at hlt; unfold tailF at hlt ⊢; omega
  rw [e] at h2
  omega

/-- What Patch makes of tokens. -/
def patchL (L N : List Lx) (hd tl : Nat) (G : Int) : List Lx := L.take hd ++ N ++ (L.drop (L.length - tl)).map (movT G)
theorem kept_patch (L M : List Lx) (F T G : Int) (hFT : F ≤ T) (hFG : F ≤ T + G) :
    patchL L ((M.take (M.length - tailF L M T G)).drop (headF L M F)) (headF L M F) (tailF L M T G) G = M := by
  have a1 := apart L M F T G hFG
  have a2 := apartL L M F T G hFT
  obtain ⟨h, hh⟩ : ∃ h, h = headF L M F := ⟨_, rfl⟩
  obtain ⟨t, htl⟩ : ∃ t, t = tailF L M T G := ⟨_, rfl⟩
  have p1 : ∀ i, i < h → L.getD i zLx = M.getD i zLx := fun i hi => by
    have := runF_true (headP L M F) _ 0 i (Nat.zero_le _) (by rw [hh] at hi; exact hi)
    simp only [headP, Bool.and_eq_true, beq_iff_eq] at this
    exact this.2
  have p2 : ∀ i, i < t → movT G (L.getD (L.length - 1 - i) zLx) = M.getD (M.length - 1 - i) zLx := fun i hi => by
    have := runF_true (tailP L M T G) _ 0 i (Nat.zero_le _) (by rw [htl] at hi; exact hi)
    simp only [tailP, Bool.and_eq_true, beq_iff_eq] at this
    exact this.2
  rw [← hh, ← htl] at a1 a2 ⊢
  have e1 : L.take h = M.take h := by
    apply List.ext_getElem (by simp; omega)
    intro i i1 i2
    simp only [List.length_take] at i1 i2
    have := p1 i (by omega)
    rw [List.getD_eq_getElem?_getD, List.getD_eq_getElem?_getD, List.getElem?_eq_getElem (by omega), List.getElem?_eq_getElem (by omega)] at this
    simpa using this
  have e2 : (L.drop (L.length - t)).map (movT G) = M.drop (M.length - t) := by
    apply List.ext_getElem (by simp; omega)
    intro i i1 i2
    simp only [List.length_map, List.length_drop] at i1 i2
    have := p2 (t - 1 - i) (by omega)
    rw [show L.length - 1 - (t - 1 - i) = L.length - t + i by omega, show M.length - 1 - (t - 1 - i) = M.length - t + i by omega] at this
    rw [List.getD_eq_getElem?_getD, List.getD_eq_getElem?_getD, List.getElem?_eq_getElem (by omega), List.getElem?_eq_getElem (by omega)] at this
    simpa using this
  unfold patchL
  rw [e1, e2]
  have : M.take h = (M.take (M.length - t)).take h := by rw [List.take_take]; congr 1; omega
  rw [this, List.take_append_drop, List.take_append_drop]
end Go.Proofs.YtlhbfgkcalalkaaDoor

namespace Go.Proofs.YtlhbfgkcalalkaaDoor
open Go.RowKit Go.Shelf

set_option maxRecDepth 100000 in
set_option maxHeartbeats 2000000 in
theorem resc_wide2 (s : List UInt8) (x : Ed) (w : World) (hs : s.length ≤ 2500) (hput : x.2.2.length ≤ 140737488355328) (he : ErrOk w) (h : (scanF s).2.2 = 0) (h2 : isEd s x = true) (h3 : (scanF (splF s x)).2.2 ≠ 0) :
    Calls Tryd.prog 13 #[.string (mkS s), edV x] w (RescPost s x w) := by
  obtain ⟨t, ht⟩ : ∃ t, t = splF s x := ⟨_, rfl⟩
  have htl : t.length ≤ 140737488365328 := by
    rw [ht]; unfold splF
    have h5 := List.length_take_le' x.1.toNat s
    have h6 : (s.drop x.2.1.toNat).length ≤ s.length := by simp
    rw [List.length_append, List.length_append]; omega
  have CS : Hid (∀ W, Below w.heap.size w W → Calls Tryd.prog 10 #[.string (mkS s)] W (ScanP (scanF s).1 (scanF s).2.1 0 W)) := fun W hW => by
    have := scanP s W (by omega) (he.below hW); rw [h] at this; exact this
  have CP : Hid (∀ W, Calls Tryd.prog 34 #[.string (mkS s), .agg #[.int .i64 x.1, .int .i64 x.2.1, .string (mkS x.2.2)]] W fun e w' => e = .returned (.tuple #[.agg #[.int .i64 x.1, .int .i64 x.2.1, .string (mkS x.2.2), .string (mkS s), .string (mkS t)], .bool true]) ∧ Below W.heap.size W w') := fun W => by
    have := splice_any s x W (by omega) (by omega)
    unfold splOut at this
    rw [h2, if_pos rfl, ← ht] at this; exact this
  have HR : Hid (rescF s x = ((0, 0, []), (scanF t).2.1, (scanF t).2.2)) := by show _ = _; unfold rescF; rw [if_neg (by omega), if_pos h2, if_pos h3, ht]
  rw [← ht] at h3
  have CT : Hid (∀ W, Below w.heap.size w W → Calls Tryd.prog 10 #[.string (mkS t)] W (ScanP (scanF t).1 (scanF t).2.1 (scanF t).2.2 W)) := fun W hW => scanP t W (by omega) (he.below hW)
  obtain ⟨A, hA⟩ : ∃ A : Int, A = (scanF s).2.1 := ⟨_, rfl⟩
  obtain ⟨A2, hA2⟩ : ∃ A : Int, A = (scanF t).2.1 := ⟨_, rfl⟩
  obtain ⟨E2, hE2⟩ : ∃ E : Int, E = (scanF t).2.2 := ⟨_, rfl⟩
  rw [← hA] at CS
  rw [← hA2, ← hE2] at CT
  have hb0 : (E2 != 0) = true := by rw [bne_iff_ne, hE2]; omega
  have HA := Lib.hid hA2; have HE := Lib.hid hE2
  have HC := Lib.hid (rescW_cells w x)
  have HB := Lib.hid (rescW_below w x)
  unfold edV
  clear hA hA2 hE2 he h h2 hput ht htl h3
  go_enter Tryd.func13, Tryd.ntmps13
  go_wp2_with fail
  refine (CS.out _ HB.out).mono ?_
  rintro e w1 ⟨v, rfl, hown, hb⟩
  obtain ⟨r0, r1, r2, q0, q1, q2, hz, k0, k1, k2, hfin⟩ := HC.out w1 hb
  have Hb := Lib.hid hb
  clear hown hb r0 r1 r2 q0 q1 q2
  go_wp2_with fail
  refine (CP.out _).mono ?_
  rintro e w2 ⟨rfl, hb2⟩
  obtain ⟨r0, r1, r2, q0, q1, q2, hz2, k0', k1', k2', hfin2⟩ := HC.out w2 (Hb.out.trans (hb2.mono Hb.out.size))
  have Hb2 := Lib.hid (Hb.out.trans (hb2.mono Hb.out.size))
  clear hb2 k0 k1 k2 k0' k1' k2' hz r0 r1 r2 q0 q1 q2 hfin
  go_wp2_with fail
  refine (CT.out _ (hfin2.alloc hfin2.size _)).mono ?_
  rintro e w3 ⟨v3, rfl, hown3, hb3⟩
  obtain ⟨r0, r1, r2, q0, q1, q2, hz3, k0', k1', k2', hfin3⟩ := HC.out w3 (((Hb2.out.alloc Hb2.out.size _)).trans (hb3.mono (by simp; have := Hb2.out.size; omega)))
  clear hb3 k0' k1' k2' hown3
  go_wp2
  refine bodyPost_ret (v := .tuple #[.agg #[.int .i64 0, .int .i64 0, .slice none 0 0], .int .i64 A2, .int .i64 E2]) (by simp [results, Tryd.results13, go_sem, r0, r1, r2, hz3]) rfl ⟨.slice none 0 0, ?_, ?_, ?_⟩
  · rw [HR.out, HA.out, HE.out]; rfl
  · rw [HR.out]; exact ⟨none, 0, rfl, by simp, .inl rfl⟩
  · repeat (first | refine Below.setCell ?_ (by simp) _ | refine Below.alloc ?_ (by first | exact hfin3.size | (simp; have := hfin3.size; omega)) _)
    exact hfin3

theorem rescan_wide (s : List UInt8) (x : Ed) (w : World) (hs : s.length ≤ 140737488355328) (hput : x.2.2.length ≤ 140737488355328) (he : ErrOk w) :
    Calls Tryd.prog 13 #[.string (mkS s), edV x] w (RescPost s x w) := by
  by_cases h : (scanF s).2.2 = 0
  · have hsl := chkE_len (scan_toks h).1
    cases h2 : isEd s x with
    | true =>
      by_cases h3 : (scanF (splF s x)).2.2 = 0
      · have htl := chkE_len (scan_toks h3).1
        have hp : x.2.2.length ≤ (splF s x).length := by unfold splF; simp; omega
        exact resc_ok s x w (by omega) (by omega) he h h2 h3
      · exact resc_wide2 s x w hsl hput he h h2 h3
    | false => exact resc_range s x w hs hput he h h2
  · exact resc_e1 s x w hs he h
end Go.Proofs.YtlhbfgkcalalkaaDoor

