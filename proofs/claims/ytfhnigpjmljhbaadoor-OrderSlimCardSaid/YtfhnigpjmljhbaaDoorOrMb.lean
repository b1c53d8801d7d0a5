/- The slim table of a lattice: what is reached in it, and what is not when a step is taken out. -/
import Derived.Test.YtfhnigpjmljhbaaDoorOrLb
import Derived.Test.YtfhnigpjmljhbaaDoorOrDe
set_option linter.unusedVariables false
set_option linter.unusedSimpArgs false
namespace Go.Proofs.YtfhnigpjmljhbaaDoor.Or
open Go.RowKit Go.Shelf

theorem asc_iff {n : Int} : ∀ {l : List Int} {last : Int}, ascF n last l = true ↔ l.Pairwise (· < ·) ∧ ∀ x ∈ l, last < x ∧ x < n
  | [], last => by simp [ascF]
  | y :: r, last => by
    simp only [ascF, Bool.and_eq_true, decide_eq_true_eq, List.pairwise_cons]
    rw [asc_iff]
    constructor
    · rintro ⟨⟨h1, h2⟩, h3, h4⟩
      refine ⟨⟨fun x hx => (h4 x hx).1, h3⟩, fun x hx => ?_⟩
      rcases List.mem_cons.1 hx with e | e
      · subst e; exact ⟨h1, h2⟩
      · have := h4 x e; exact ⟨by omega, this.2⟩
    · rintro ⟨⟨h1, h2⟩, h3⟩
      refine ⟨h3 y (by simp), h2, fun x hx => ⟨h1 x hx, (h3 x (by simp [hx])).2⟩⟩
theorem asc_filt (n : Nat) (p : Nat → Bool) : ascF n (-1) (ints ((List.range n).filter p)) = true := by
  rw [asc_iff]
  constructor
  · unfold ints
    rw [List.pairwise_map]
    exact (List.Pairwise.filter p List.pairwise_lt_range).imp (fun h => by omega)
  · intro x hx
    unfold ints at hx
    obtain ⟨y, hy, rfl⟩ := List.mem_map.1 hx
    have := List.mem_range.1 (List.mem_filter.1 hy).1
    omega
theorem cov_R {R : Nat → Nat → Bool} {n a b : Nat} (h : cov R n a b = true) : R a b = true := by
  unfold cov at h; rw [Bool.and_eq_true] at h; exact h.1
theorem cov_path {R : Nat → Nat → Bool} {n : Nat} (h : Acy R n) : ∀ (k : Nat) {a b : Nat}, cntU R n a ≤ k → R a b = true → Pth (cov R n) a b
  | 0, a, b, hk, hR => by
    have := cnt_less h hR
    omega
  | k + 1, a, b, hk, hR => by
    obtain ⟨c, hc, hb⟩ := cov_exists h (n - cntU R n b) (Nat.le_refl _) hR
    have h1 := cnt_less h (cov_R hc)
    by_cases e : c = b
    · subst e; exact .one hc
    · have hcb : R c b = true := by
        unfold bel at hb
        rcases Bool.or_eq_true .. ▸ hb with h2 | h2
        · exact absurd (by simpa using h2) e
        · exact h2
      exact .more hc (cov_path h k (by omega) hcb)
theorem path_cov {R : Nat → Nat → Bool} {n a b : Nat} (h : Acy R n) (hp : Pth (cov R n) a b) : R a b = true := by
  induction hp with
  | one he => exact cov_R he
  | more he _ ih => exact h.trans _ _ _ (cov_R he) ih
theorem slim_E {t : Tab} (hf : frmF t = true) : (slimT t).E = cov t.R t.n := by
  funext a b
  unfold Tab.E
  have hcr : cov t.R t.n a b = true → a < t.n ∧ b < t.n := fun h => R_rng hf (cov_R h)
  by_cases ha : a < t.n
  · rw [(slim_lens hf).2.1 a ha]
    rw [Bool.eq_iff_iff]
    simp only [ints, List.contains_iff_mem, List.mem_map, List.mem_filter, List.mem_range]
    constructor
    · rintro ⟨x, ⟨_, hx⟩, hxb⟩
      have : x = b := by omega
      subst this; exact hx
    · intro hc
      exact ⟨b, ⟨(hcr hc).2, hc⟩, rfl⟩
  · have h1 : (slimT t).above.getD a [] = [] := by
      rw [List.getD_eq_getElem?_getD, List.getElem?_eq_none (by rw [(slim_lens hf).1]; omega)]; rfl
    rw [h1]
    cases hc : cov t.R t.n a b with
    | false => rfl
    | true => exact absurd (hcr hc).1 ha
theorem slim_frm {t : Tab} (hf : frmF t = true) : frmF (slimT t) = true := by
  obtain ⟨l1, l2, l3, l4⟩ := frm_len hf
  rw [frm_code] at hf ⊢
  simp only [Bool.and_eq_true] at hf ⊢
  refine ⟨?_, hf.2.1, ?_⟩
  · unfold headF
    simp only [Bool.and_eq_true, decide_eq_true_eq]
    exact ⟨⟨⟨l1, l2⟩, by simp [slimT, Tab.n]⟩, l4⟩
  · rw [List.all_eq_true]
    intro l hl
    simp only [slimT, List.mem_map, List.mem_range] at hl
    obtain ⟨a, ha, rfl⟩ := hl
    exact asc_filt t.n _
theorem slim_R {t : Tab} (hf : frmF t = true) (hA : Acy t.R t.n) : (slimT t).R = t.R := by
  funext a b
  rw [Bool.eq_iff_iff, R_path (slim_frm hf), slim_E hf]
  exact ⟨path_cov hA, cov_path hA _ (Nat.le_refl _)⟩
theorem slim_n (t : Tab) : (slimT t).n = t.n := rfl
theorem slim_wr (t : Tab) : (slimT t).wr = t.wr := rfl
theorem latE_slim {t : Tab} (h : latE t [] = 0) : latE (slimT t) [] = 0 := by
  obtain ⟨hf, hl, _⟩ := latE_zero h
  have hA : Acy t.R t.n := frm_acy hf (latF_lat hl)
  unfold latE
  rw [slim_frm hf]
  have : latF (slimT t) = true := by
    unfold latF
    rw [slim_R hf hA, slim_n, slim_wr]; exact hl
  rw [this]
  rfl
theorem slim_slim {t : Tab} (h : latE t [] = 0) : slimT (slimT t) = slimT t := by
  obtain ⟨hf, hl, _⟩ := latE_zero h
  have hA : Acy t.R t.n := frm_acy hf (latF_lat hl)
  have hR := slim_R hf hA
  show Tab.mk _ _ _ _ = Tab.mk _ _ _ _
  rw [hR]
  rfl
theorem slim_ups {t : Tab} (h : latE t [] = 0) (a : Nat) : ups (slimT t).R (slimT t).n [a] = ups t.R t.n [a] := by
  obtain ⟨hf, hl, _⟩ := latE_zero h
  have hA : Acy t.R t.n := frm_acy hf (latF_lat hl)
  rw [slim_R hf hA, slim_n]

/-- A list without the number at a place; a table without a step. -/
def cutL (l : List Int) (i : Nat) : List Int := l.take i ++ l.drop (i + 1)
def cutT (t : Tab) (a i : Nat) : Tab where
  name := t.name
  elems := t.elems
  above := t.above.set a (cutL (t.above.getD a []) i)
  wrong := t.wrong
theorem cut_sub (l : List Int) (i : Nat) : (cutL l i).Sublist l := by
  unfold cutL
  rw [← List.eraseIdx_eq_take_drop_succ]
  exact List.eraseIdx_sublist _ _
theorem cut_len {l : List Int} {i : Nat} (hi : i < l.length) : (cutL l i).length = l.length - 1 := by
  unfold cutL; simp; omega
theorem asc_cut {n last : Int} {l : List Int} (i : Nat) (h : ascF n last l = true) : ascF n last (cutL l i) = true := by
  rw [asc_iff] at h ⊢
  exact ⟨h.1.sublist (cut_sub l i), fun x hx => h.2 x ((cut_sub l i).subset hx)⟩
theorem cut_gone {l : List Int} {i : Nat} (h : l.Pairwise (· < ·)) (hi : i < l.length) : l.getD i 0 ∉ cutL l i := by
  intro hm
  have hg : l.getD i 0 = l[i] := by simp [List.getD_eq_getElem?_getD, hi]
  rw [hg] at hm
  have hp := List.pairwise_iff_getElem.1 h
  unfold cutL at hm
  rcases List.mem_append.1 hm with h1 | h1
  · obtain ⟨j, hj, e⟩ := List.mem_iff_getElem.1 h1
    rw [List.getElem_take] at e
    rw [List.length_take] at hj
    have := hp j i (by omega) hi (by omega)
    omega
  · obtain ⟨j, hj, e⟩ := List.mem_iff_getElem.1 h1
    rw [List.getElem_drop] at e
    rw [List.length_drop] at hj
    have := hp i (i + 1 + j) hi (by omega) (by omega)
    omega
theorem cut_rows {t : Tab} {a : Nat} (ha : a < t.above.length) (i x : Nat) : (cutT t a i).above.getD x [] = if x = a then cutL (t.above.getD a []) i else t.above.getD x [] := by
  unfold cutT
  simp only [List.getD_eq_getElem?_getD, List.getElem?_set]
  by_cases e : x = a
  · subst e; simp [ha]
  · rw [if_neg e, if_neg (fun e2 => e e2.symm)]
theorem cut_frm {t : Tab} {a : Nat} (hf : frmF t = true) (ha : a < t.above.length) (i : Nat) : frmF (cutT t a i) = true := by
  obtain ⟨l1, l2, l3, l4⟩ := frm_len hf
  have has := frm_asc hf ha
  rw [frm_code] at hf ⊢
  simp only [Bool.and_eq_true] at hf ⊢
  refine ⟨?_, hf.2.1, ?_⟩
  · unfold headF
    simp only [Bool.and_eq_true, decide_eq_true_eq]
    exact ⟨⟨⟨l1, l2⟩, by show (t.above.set a _).length = _; rw [List.length_set]; exact l3⟩, l4⟩
  · rw [List.all_eq_true]
    intro l hl
    rcases List.mem_or_eq_of_mem_set hl with h | h
    · exact (List.all_eq_true.1 hf.2.2) l h
    · subst h; exact asc_cut i has
theorem cut_E {t : Tab} {a i x y : Nat} (ha : a < t.above.length) (h : (cutT t a i).E x y = true) : t.E x y = true := by
  unfold Tab.E at h ⊢
  rw [cut_rows ha] at h
  split at h
  · rename_i e; subst e
    simp only [List.contains_iff_mem] at h ⊢
    exact (cut_sub _ _).subset h
  · exact h
/-- A step that is right above is missed when it is taken out. -/
theorem cut_miss {t : Tab} (h : latE t [] = 0) {a i : Nat} (ha : a < t.n) (hi : i < ((slimT t).above.getD a []).length) :
    (ints (ups (cutT (slimT t) a i).R (cutT (slimT t) a i).n [a]) == ints (ups (slimT t).R (slimT t).n [a])) = false := by
  obtain ⟨hf, hl, _⟩ := latE_zero h
  have hA : Acy t.R t.n := frm_acy hf (latF_lat hl)
  have hsf := slim_frm hf
  have hal : a < (slimT t).above.length := by rw [(slim_lens hf).1]; exact ha
  obtain ⟨b, hb, hbe⟩ : ∃ b : Nat, cov t.R t.n a b = true ∧ ((slimT t).above.getD a []).getD i 0 = (b : Int) := by
    rw [(slim_lens hf).2.1 a ha] at hi ⊢
    rw [ints_length] at hi
    refine ⟨((List.range t.n).filter (cov t.R t.n a)).getD i 0, ?_, ints_get _ _ hi⟩
    have hm : ((List.range t.n).filter (cov t.R t.n a)).getD i 0 ∈ (List.range t.n).filter (cov t.R t.n a) := by
      simp [List.getD_eq_getElem?_getD, hi]
    exact (List.mem_filter.1 hm).2
  have hcf := cut_frm hsf hal i
  have hno : (cutT (slimT t) a i).R a b = false := by
    cases hR : (cutT (slimT t) a i).R a b with
    | false => rfl
    | true =>
      exfalso
      have hp := (R_path hcf).1 hR
      have hE0 : ∀ {x y : Nat}, (cutT (slimT t) a i).E x y = true → cov t.R t.n x y = true := fun he => by
        have := cut_E hal he
        rwa [slim_E hf] at this
      have hpc : ∀ {x y : Nat}, Pth (cutT (slimT t) a i).E x y → t.R x y = true := fun {x y} hq => by
        induction hq with
        | one he => exact cov_R (hE0 he)
        | more he _ ih => exact hA.trans _ _ _ (cov_R (hE0 he)) ih
      have hnb : ∀ {c : Nat}, (cutT (slimT t) a i).E a c = true → c ≠ b := fun {c} he e => by
        subst e
        unfold Tab.E at he
        rw [cut_rows hal, if_pos rfl, List.contains_iff_mem, ← hbe] at he
        exact cut_gone (asc_iff.1 (frm_asc hsf hal)).1 hi he
      cases hp with
      | one he => exact hnb he rfl
      | more he hq =>
        rename_i c
        have h1 := hE0 he
        have h2 := hpc hq
        have hc := (R_rng hf (cov_R h1)).2
        unfold cov at hb
        simp only [Bool.and_eq_true, Bool.not_eq_true', List.any_eq_false, List.mem_range] at hb
        exact hb.2 c hc (by simp [cov_R h1, h2])
  have hyes : b ∈ ups (slimT t).R (slimT t).n [a] := by
    rw [slim_ups h, mem_ups]
    refine ⟨(R_rng hf (cov_R hb)).2, fun x hx => ?_⟩
    have : x = a := by simpa using hx
    subst this
    unfold bel
    rw [cov_R hb]; simp
  have hnot : b ∉ ups (cutT (slimT t) a i).R (cutT (slimT t) a i).n [a] := by
    rw [mem_ups]
    rintro ⟨_, h2⟩
    have := h2 a (by simp)
    unfold bel at this
    rw [hno] at this
    have e : a = b := by simpa using this
    subst e
    have := hA.irr a
    rw [cov_R hb] at this; cases this
  rw [beq_eq_false_iff_ne]
  intro he
  have : ups (cutT (slimT t) a i).R (cutT (slimT t) a i).n [a] = ups (slimT t).R (slimT t).n [a] := by
    unfold ints at he
    exact (List.map_inj_right (fun x y hxy => by omega)).1 he
  rw [this] at hnot
  exact hnot hyes
theorem cut_len_tab (t : Tab) (a i : Nat) : (cutT t a i).elems.length = t.elems.length ∧ (cutT t a i).above.length = t.above.length ∧ (cutT t a i).wrong.length = t.wrong.length := ⟨rfl, by show (t.above.set a _).length = _; rw [List.length_set], rfl⟩
end Go.Proofs.YtfhnigpjmljhbaaDoor.Or
