/- A table with its elements in another order: its form, its steps, what it tells. No program is spoken of here but by its contracts. -/
import Derived.Test.YtmooikdodbjgpaaDoorOrKd
set_option linter.unusedVariables false
set_option linter.unusedSimpArgs false
namespace Go.Proofs.YtmooikdodbjgpaaDoor.Or

/-- The table with its elements in another order: at says which one comes where. -/
def turnT (t : Tab) (at' : Nat → Nat) : Tab where
  name := t.name
  elems := (List.range t.n).map fun i => t.elems.getD (at' i) []
  above := (List.range t.n).map fun i => ints ((List.range t.n).filter fun c => t.E (at' i) (at' c))
  wrong := (List.range t.n).map fun i => t.wrong.getD (at' i) false
theorem turnT_n (t : Tab) (at' : Nat → Nat) : (turnT t at').n = t.n := by simp [turnT, Tab.n]
theorem getD_map_range {α : Type} (f : Nat → α) (n i : Nat) (d : α) (hi : i < n) : ((List.range n).map f).getD i d = f i := by
  simp [List.getD_eq_getElem?_getD, hi]
theorem turnT_E (t : Tab) (at' : Nat → Nat) {a b : Nat} (ha : a < t.n) (hb : b < t.n) : (turnT t at').E a b = t.E (at' a) (at' b) := by
  unfold Tab.E
  have e : (turnT t at').above.getD a [] = ints ((List.range t.n).filter fun c => t.E (at' a) (at' c)) := getD_map_range _ _ _ _ ha
  rw [e, Bool.eq_iff_iff, List.contains_iff_mem]
  unfold ints
  rw [List.mem_map]
  constructor
  · rintro ⟨c, hc, h⟩
    have : c = b := by omega
    subst this
    exact (List.mem_filter.1 hc).2
  · intro h
    exact ⟨b, List.mem_filter.2 ⟨List.mem_range.2 hb, h⟩, rfl⟩
theorem turnT_wr (t : Tab) (at' : Nat → Nat) {a : Nat} (ha : a < t.n) : (turnT t at').wr a = t.wr (at' a) := getD_map_range _ _ _ _ ha
theorem asc_filter (n : Nat) (p : Nat → Bool) : ∀ (m s : Nat) (last : Int), last < s → s + m ≤ n → ascF n last (ints ((List.range' s m).filter p)) = true
  | 0, s, last, _, _ => rfl
  | m + 1, s, last, h1, h2 => by
    rw [List.range'_succ, List.filter_cons]
    cases hp : p s with
    | true =>
      simp only [if_true, ints, List.map_cons, ascF, Bool.and_eq_true, decide_eq_true_eq]
      exact ⟨⟨h1, by omega⟩, asc_filter n p m (s + 1) s (by omega) (by omega)⟩
    | false =>
      simp only [Bool.false_eq_true, if_false]
      exact asc_filter n p m (s + 1) last (by omega) (by omega)
theorem turn_frm {t : Tab} {at' tn : Nat → Nat} (h : Turn t.n at' tn) (hf : frmF t = true) : frmF (turnT t at') = true := by
  obtain ⟨f1, f2, f3, f4⟩ := frm_len hf
  have hn : (turnT t at').elems.length = t.n := turnT_n t at'
  unfold frmF at hf
  simp only [Bool.and_eq_true] at hf
  obtain ⟨⟨_, hname⟩, hrows⟩ := hf
  rw [List.all_eq_true] at hrows
  have hrow : ∀ i, i < t.n → nameF (t.elems.getD i []) = true ∧ ((t.elems.take i).contains (t.elems.getD i [])) = false := fun i hi => by
    have := hrows i (List.mem_range.2 hi)
    unfold rowF at this
    simp only [Bool.and_eq_true] at this
    refine ⟨this.1.1, ?_⟩
    have h2 := this.1.2
    rw [find_self (show i < t.elems.length from hi)] at h2
    simpa using h2
  have hinj : ∀ i j, i < t.n → j < t.n → t.elems.getD i [] = t.elems.getD j [] → i = j := by
    have key : ∀ i j, i < j → j < t.n → t.elems.getD i [] ≠ t.elems.getD j [] := fun i j hij hj e => by
      have := (hrow j hj).2
      rw [← e] at this
      have hm : t.elems.getD i [] ∈ t.elems.take j := by
        have hil : i < t.elems.length := by unfold Tab.n at hj; omega
        rw [List.getD_eq_getElem?_getD, List.getElem?_eq_getElem hil, Option.getD_some]
        rw [List.mem_take_iff_getElem]
        exact ⟨i, by omega, rfl⟩
      rw [Bool.eq_false_iff] at this
      exact this (List.contains_iff_mem.2 hm)
    intro i j hi hj e
    rcases Nat.lt_trichotomy i j with c | c | c
    · exact absurd e (key i j c hj)
    · exact c
    · exact absurd e.symm (key j i c hi)
  unfold frmF
  rw [Bool.and_eq_true, Bool.and_eq_true]
  refine ⟨⟨?_, hname⟩, ?_⟩
  · unfold headF
    rw [hn]
    have e1 : (turnT t at').above.length = t.n := by simp [turnT]
    have e2 : (turnT t at').wrong.length = t.n := by simp [turnT]
    rw [e1, e2]
    have : 1 ≤ t.n := f1
    have : t.n ≤ 12 := f2
    simp; omega
  · rw [List.all_eq_true]
    intro i hi
    rw [List.mem_range, hn] at hi
    have e : ∀ k, k < t.n → (turnT t at').elems.getD k [] = t.elems.getD (at' k) [] := fun k hk => getD_map_range _ _ _ _ hk
    unfold rowF
    rw [Bool.and_eq_true, Bool.and_eq_true]
    refine ⟨⟨?_, ?_⟩, ?_⟩
    · rw [e i hi]; exact (hrow _ (h.a1 i hi)).1
    · rw [find_self (by rw [hn]; exact hi), Bool.not_eq_true', Bool.eq_false_iff]
      intro hc
      rw [List.contains_iff_mem, List.mem_take_iff_getElem] at hc
      obtain ⟨k, hk, hke⟩ := hc
      have hkn : k < t.n := by omega
      have hk2 : (turnT t at').elems.getD k [] = (turnT t at').elems.getD i [] := by
        rw [← hke, List.getD_eq_getElem?_getD, List.getElem?_eq_getElem (by rw [hn]; exact hkn), Option.getD_some]
      rw [e k hkn, e i hi] at hk2
      have := hinj _ _ (h.a1 k hkn) (h.a1 i hi) hk2
      have h3 := h.ta k hkn
      rw [this, h.ta i hi] at h3
      omega
    · have e3 : (turnT t at').above.getD i [] = ints ((List.range t.n).filter fun c => t.E (at' i) (at' c)) := getD_map_range _ _ _ _ hi
      rw [e3, hn, List.range_eq_range']
      exact asc_filter _ _ _ _ _ (by omega) (by omega)
/-- The steps of the turned table are the steps, turned. -/
theorem turn_R {t : Tab} {at' tn : Nat → Nat} (h : Turn t.n at' tn) (hf : frmF t = true) : Turned t.n tn t.R (turnT t at').R := by
  have hf2 := turn_frm h hf
  have hn := turnT_n t at'
  have g1 : ∀ a b, a < t.n → b < t.n → (turnT t at').E (tn a) (tn b) = t.E a b := fun a b ha hb => by
    rw [turnT_E t at' (h.t1 a ha) (h.t1 b hb), h.at1 a ha, h.at1 b hb]
  have g2 : ∀ a b, a < t.n → b < t.n → t.E (at' a) (at' b) = (turnT t at').E a b := fun a b ha hb => (turnT_E t at' ha hb).symm
  intro a b ha hb
  rw [Bool.eq_iff_iff, R_path hf2, R_path hf]
  constructor
  · intro p
    have hz : 0 < t.n := by omega
    have := turned_path (h.back hz) (fun x y e => by have := E_rng hf2 e; rw [hn] at this; exact this) g2 p
    rw [h.at1 a ha, h.at1 b hb] at this
    exact this
  · intro p
    exact turned_path h (fun x y e => E_rng hf e) g1 p
/-- A table has a break just if the turned one has. -/
theorem turn_lat {t : Tab} {at' tn : Nat → Nat} (h : Turn t.n at' tn) (hf : frmF t = true) : latF (turnT t at') = latF t := by
  have hf2 := turn_frm h hf
  have hR := turn_R h hf
  have hn := turnT_n t at'
  have hz : 0 < t.n := (frm_len hf).1
  rw [Bool.eq_iff_iff, latF_words hf2, latF_words hf, hn]
  constructor
  · intro hw
    refine turned_words (h.back hz) (turned_back h hR) (fun a ha => ?_) hz hw
    exact (turnT_wr t at' ha).symm
  · intro hw
    refine turned_words h hR (fun a ha => ?_) hz hw
    rw [turnT_wr t at' (h.t1 a ha), h.at1 a ha]
theorem turn_jn {t : Tab} {at' tn : Nat → Nat} (h : Turn t.n at' tn) (hf : frmF t = true) (hl : latF t = true) {a b : Nat} (ha : a < t.n) (hb : b < t.n) : jn (turnT t at').R t.n (tn a) (tn b) = tn (jn t.R t.n a b) := by
  have hf2 := turn_frm h hf
  have hl2 : latF (turnT t at') = true := by rw [turn_lat h hf]; exact hl
  have hL := latF_lat hl
  have hL2 := latF_lat hl2
  have hA2 := frm_acy hf2 hL2
  rw [turnT_n] at hL2 hA2
  exact turned_jn h (turn_R h hf) hL (frm_acy hf hL) hL2 hA2 ha hb

/-- Two places are changed with each other: what is a list of all numbers stays one. -/
def swapF (f : Nat → Nat) (i k : Nat) : Nat → Nat := fun j => if j = i then f k else if j = k then f i else f j
structure PermF (n : Nat) (f : Nat → Nat) : Prop where
  lt : ∀ i, i < n → f i < n
  inj : ∀ i j, i < n → j < n → f i = f j → i = j
  z : f 0 = 0
  sur : ∀ j, j < n → ∃ i, i < n ∧ f i = j
theorem PermF.start (n : Nat) : PermF n (fun i => i) := ⟨fun i h => h, fun i j _ _ h => h, rfl, fun j h => ⟨j, h, rfl⟩⟩
theorem PermF.swap {n i k : Nat} {f : Nat → Nat} (h : PermF n f) (hi : i < n) (hk : k < n) (i0 : 0 < i) (k0 : 0 < k) : PermF n (swapF f i k) := by
  refine ⟨fun j hj => ?_, fun a b ha hb e => ?_, ?_, fun j hj => ?_⟩
  · unfold swapF
    split
    · exact h.lt k hk
    · split
      · exact h.lt i hi
      · exact h.lt j hj
  · unfold swapF at e
    by_cases a1 : a = i
    · rw [if_pos a1] at e
      by_cases b1 : b = i
      · omega
      · rw [if_neg b1] at e
        by_cases b2 : b = k
        · rw [if_pos b2] at e
          have := h.inj _ _ hk hi e; omega
        · rw [if_neg b2] at e
          have := h.inj _ _ hk hb e; omega
    · rw [if_neg a1] at e
      by_cases a2 : a = k
      · rw [if_pos a2] at e
        by_cases b1 : b = i
        · rw [if_pos b1] at e
          have := h.inj _ _ hi hk e; omega
        · rw [if_neg b1] at e
          by_cases b2 : b = k
          · omega
          · rw [if_neg b2] at e
            have := h.inj _ _ hi hb e; omega
      · rw [if_neg a2] at e
        by_cases b1 : b = i
        · rw [if_pos b1] at e
          have := h.inj _ _ ha hk e; omega
        · rw [if_neg b1] at e
          by_cases b2 : b = k
          · rw [if_pos b2] at e
            have := h.inj _ _ ha hi e; omega
          · rw [if_neg b2] at e
            exact h.inj _ _ ha hb e
  · unfold swapF
    rw [if_neg (by omega), if_neg (by omega)]
    exact h.z
  · obtain ⟨a, ha, rfl⟩ := h.sur j hj
    by_cases a1 : a = i
    · refine ⟨k, hk, ?_⟩
      unfold swapF
      by_cases a2 : k = i
      · rw [if_pos a2, a1, a2]
      · rw [if_neg a2, if_pos rfl, a1]
    · by_cases a2 : a = k
      · refine ⟨i, hi, ?_⟩
        unfold swapF
        rw [if_pos rfl, a2]
      · refine ⟨a, ha, ?_⟩
        unfold swapF
        rw [if_neg a1, if_neg a2]
/-- Where a number stands in a list of places. -/
def invF (n : Nat) (f : Nat → Nat) (j : Nat) : Nat := ((List.range n).find? fun i => f i == j).getD 0
theorem invF_at {n : Nat} {f : Nat → Nat} (h : PermF n f) {i : Nat} (hi : i < n) : invF n f (f i) = i := by
  unfold invF
  cases e : (List.range n).find? fun x => f x == f i with
  | none =>
    rw [List.find?_eq_none] at e
    exact absurd (by simp) (e i (List.mem_range.2 hi))
  | some x =>
    have h1 := List.mem_of_find?_eq_some e
    have h2 := List.find?_some e
    rw [List.mem_range] at h1
    simp only [beq_iff_eq] at h2
    exact h.inj x i h1 hi h2
theorem PermF.turn {n : Nat} {f : Nat → Nat} (h : PermF n f) : Turn n f (invF n f) := by
  refine ⟨h.lt, fun j hj => ?_, fun i hi => invF_at h hi, fun j hj => ?_, ?_⟩
  · obtain ⟨i, hi, rfl⟩ := h.sur j hj
    rw [invF_at h hi]; exact hi
  · obtain ⟨i, hi, rfl⟩ := h.sur j hj
    rw [invF_at h hi]
  · rcases Nat.eq_zero_or_pos n with rfl | hn
    · rfl
    · have := invF_at h hn
      rw [h.z] at this
      exact this
/-- What stands of a turned row, when so many numbers, and of the next one so many steps, were looked at. -/
def rowK (t : Tab) (f : Nat → Nat) (a c k : Nat) : List Nat := ((List.range c).filter fun x => t.E a (f x)) ++ (if ((t.above.getD a []).take k).contains ((f c : Nat) : Int) then [c] else [])
theorem rowK_start (t : Tab) (f : Nat → Nat) (a c : Nat) : rowK t f a c 0 = (List.range c).filter fun x => t.E a (f x) := by simp [rowK]
theorem rowK_end (t : Tab) (f : Nat → Nat) (a c k : Nat) (hk : (t.above.getD a []).length ≤ k) : rowK t f a c k = (List.range (c + 1)).filter fun x => t.E a (f x) := by
  unfold rowK
  rw [List.take_of_length_le hk, List.range_succ, List.filter_append, List.filter_cons, List.filter_nil]
  rfl
theorem take_snoc {l : List Int} {k : Nat} (hk : k < l.length) : l.take (k + 1) = l.take k ++ [l.getD k 0] := by
  rw [List.take_add_one, List.getD_eq_getElem?_getD, List.getElem?_eq_getElem hk]; rfl
theorem rowK_yes {t : Tab} {f : Nat → Nat} {a c k : Nat} (hk : k < (t.above.getD a []).length) (hc : (t.above.getD a []).getD k 0 = (f c : Nat)) (hn : ((f c : Nat) : Int) ∉ (t.above.getD a []).take k) : rowK t f a c (k + 1) = rowK t f a c k ++ [c] := by
  unfold rowK
  have h1 : ((t.above.getD a []).take k).contains ((f c : Nat) : Int) = false := by
    rw [Bool.eq_false_iff]; intro h; exact hn (List.contains_iff_mem.1 h)
  have h2 : ((t.above.getD a []).take (k + 1)).contains ((f c : Nat) : Int) = true := by
    rw [List.contains_iff_mem, take_snoc hk, hc]; simp
  rw [h1, h2]; simp
theorem rowK_no {t : Tab} {f : Nat → Nat} {a c k : Nat} (hk : k < (t.above.getD a []).length) (hc : (t.above.getD a []).getD k 0 ≠ (f c : Nat)) : rowK t f a c (k + 1) = rowK t f a c k := by
  unfold rowK
  have h2 : ((t.above.getD a []).take (k + 1)).contains ((f c : Nat) : Int) = ((t.above.getD a []).take k).contains ((f c : Nat) : Int) := by
    rw [Bool.eq_iff_iff, List.contains_iff_mem, List.contains_iff_mem, take_snoc hk, List.mem_append, List.mem_singleton]
    constructor
    · rintro (h | h)
      · exact h
      · exact absurd h.symm hc
    · exact .inl
  rw [h2]
/-- An ascending list has each number once. -/
theorem asc_once {n : Int} : ∀ {l : List Int} {last : Int} {k : Nat}, ascF n last l = true → k < l.length → l.getD k 0 ∉ l.take k
  | [], _, _, _, h => by simp at h
  | x :: l, last, 0, _, _ => by simp
  | x :: l, last, k + 1, h, hk => by
    simp only [ascF, Bool.and_eq_true, decide_eq_true_eq] at h
    simp only [List.length_cons, Nat.add_lt_add_iff_right] at hk
    rw [List.take_succ_cons, List.getD_cons_succ, List.mem_cons, not_or]
    refine ⟨fun e => ?_, asc_once h.2 hk⟩
    have hm : l.getD k 0 ∈ l := by rw [List.getD_eq_getElem?_getD, List.getElem?_eq_getElem hk]; exact List.getElem_mem hk
    have := (asc_mem h.2 hm).1
    omega
theorem rowK_len (t : Tab) (f : Nat → Nat) (a c k : Nat) : (rowK t f a c k).length ≤ c + 1 := by
  unfold rowK
  rw [List.length_append]
  have h1 := List.length_filter_le (fun x => t.E a (f x)) (List.range c)
  rw [List.length_range] at h1
  split <;> simp <;> omega
end Go.Proofs.YtmooikdodbjgpaaDoor.Or
