/- The height by joins, and by rounds. No program is spoken of here. -/
import Derived.Test.YtmooikdodbjgpaaDoorOrP0
set_option linter.unusedVariables false
namespace Go.Proofs.YtmooikdodbjgpaaDoor.Or

theorem cnt_lt {R : Nat → Nat → Bool} {n : Nat} (h : Acy R n) {a : Nat} (ha : a < n) : cntU R n a + 1 ≤ n := by
  unfold cntU
  have h1 := filter_less (p := R a) (q := fun _ => true) (fun _ _ => rfl) (z := a) (h.irr a) rfl (l := List.range n) (List.mem_range.2 ha)
  rw [List.filter_eq_self.2 (fun _ _ => rfl), List.length_range] at h1
  exact h1
/-- The height of an element. -/
def hg (R : Nat → Nat → Bool) (n a : Nat) : Nat := hgt R n n a
theorem hg_step {R : Nat → Nat → Bool} {n : Nat} (h : Acy R n) {a b : Nat} (hR : R a b = true) : hg R n b + 1 ≤ hg R n a := by
  have hb := h.rng a b hR
  have hl := cnt_less h hR
  have hc := cnt_le R n a
  unfold hg
  obtain ⟨g, hg⟩ : ∃ g, n = g + 1 := ⟨n - 1, by omega⟩
  rw [hgt_fuel h (f := n) (g := g) (a := b) (by omega) (by omega)]
  have : hgt R n (g + 1) a = hgt R n n a := by rw [← hg]
  rw [← this, hgt]
  have := maxL_mem (l := ((List.range n).filter (R a)).map fun b => 1 + hgt R n g b) (x := 1 + hgt R n g b) (List.mem_map.2 ⟨b, List.mem_filter.2 ⟨List.mem_range.2 hb, hR⟩, rfl⟩)
  omega
theorem hgt_cnt {R : Nat → Nat → Bool} {n : Nat} (h : Acy R n) : ∀ {f a : Nat}, hgt R n f a ≤ cntU R n a
  | 0, a => by rw [hgt]; omega
  | f + 1, a => by
    rw [hgt]
    refine maxL_le fun x hx => ?_
    rw [List.mem_map] at hx
    obtain ⟨b, hb, rfl⟩ := hx
    rw [List.mem_filter, List.mem_range] at hb
    have := cnt_less h hb.2
    have := hgt_cnt h (f := f) (a := b)
    omega
theorem hg_lt {R : Nat → Nat → Bool} {n : Nat} (h : Acy R n) {a : Nat} (ha : a < n) : hg R n a < n := by
  have h1 := hgt_cnt h (f := n) (a := a)
  have h2 := cnt_lt h ha
  unfold hg; omega
/-- The steps the other way round. -/
def rv (R : Nat → Nat → Bool) (x y : Nat) : Bool := R y x
theorem rv_acy {R : Nat → Nat → Bool} {n : Nat} (h : Acy R n) (hr : ∀ a b, R a b = true → a < n) : Acy (rv R) n :=
  { trans := fun a b c h1 h2 => h.trans c b a h2 h1, irr := fun a => h.irr a, rng := fun a b h1 => hr b a h1 }
theorem sum_le {R : Nat → Nat → Bool} {n : Nat} (h : Acy R n) (hr : ∀ a b, R a b = true → a < n) (hb : ∀ a, a < n → bel R 0 a = true) : ∀ (f a : Nat), a < n → hgt (rv R) n f a + hg R n a ≤ hg R n 0
  | 0, a, ha => by
    rw [hgt]
    have := hb a ha
    unfold bel at this
    simp only [Bool.or_eq_true, beq_iff_eq] at this
    rcases this with rfl | h1
    · omega
    · have := hg_step h h1; omega
  | f + 1, a, ha => by
    rw [hgt]
    have hz := sum_le h hr hb 0 a ha
    rw [hgt] at hz
    have : maxL (((List.range n).filter (rv R a)).map fun b => 1 + hgt (rv R) n f b) ≤ hg R n 0 - hg R n a := by
      refine maxL_le fun x hx => ?_
      rw [List.mem_map] at hx
      obtain ⟨c, hc, rfl⟩ := hx
      rw [List.mem_filter, List.mem_range] at hc
      have h1 := sum_le h hr hb f c hc.1
      have h2 := hg_step h (a := c) (b := a) hc.2
      omega
    omega
theorem reach_top {R : Nat → Nat → Bool} {n : Nat} (h : Acy R n) (hr : ∀ a b, R a b = true → a < n) : ∀ (f a : Nat), a < n → ∃ b, b < n ∧ hg (rv R) n a + hgt R n f a ≤ hg (rv R) n b
  | 0, a, ha => ⟨a, ha, by rw [hgt]; omega⟩
  | f + 1, a, ha => by
    rw [hgt]
    by_cases h0 : maxL (((List.range n).filter (R a)).map fun b => 1 + hgt R n f b) = 0
    · exact ⟨a, ha, by omega⟩
    · have hmem : ∃ c, c < n ∧ R a c = true ∧ maxL (((List.range n).filter (R a)).map fun b => 1 + hgt R n f b) ≤ 1 + hgt R n f c := by
        refine Classical.byContradiction fun hno => ?_
        have : maxL (((List.range n).filter (R a)).map fun b => 1 + hgt R n f b) ≤ maxL (((List.range n).filter (R a)).map fun b => 1 + hgt R n f b) - 1 := by
          refine maxL_le fun x hx => ?_
          rw [List.mem_map] at hx
          obtain ⟨c, hc, rfl⟩ := hx
          rw [List.mem_filter, List.mem_range] at hc
          refine Classical.byContradiction fun hlt => hno ⟨c, hc.1, hc.2, by omega⟩
        omega
      obtain ⟨c, hc, hRc, hmx⟩ := hmem
      obtain ⟨b, hb, hle⟩ := reach_top h hr f c hc
      have hs := hg_step (rv_acy h hr) (a := c) (b := a) hRc
      exact ⟨b, hb, by omega⟩
/-- The greatest depth is the height of the bottom. -/
theorem depth_max {R : Nat → Nat → Bool} {n : Nat} (h : Acy R n) (hr : ∀ a b, R a b = true → a < n) (hb : ∀ a, a < n → bel R 0 a = true) (hn : 0 < n) {m : Nat} (h1 : ∀ a, a < n → hg (rv R) n a ≤ m) (h2 : m = 0 ∨ ∃ a, a < n ∧ m ≤ hg (rv R) n a) : m = hg R n 0 := by
  refine Nat.le_antisymm ?_ ?_
  · rcases h2 with rfl | ⟨a, ha, h3⟩
    · exact Nat.zero_le _
    · have := sum_le h hr hb n a ha
      unfold hg at h3 ⊢; unfold hg at this; omega
  · obtain ⟨b, hb', hle⟩ := reach_top h hr n 0 hn
    have := h1 b hb'
    unfold hg at *; omega

/-- The steps so far: never too many, and after so many rounds those of so many steps. -/
structure StepsI (R : Nat → Nat → Bool) (n r a0 c0 : Nat) (s : Nat → Nat) : Prop where
  most : ∀ a, a < n → s a ≤ hg (rv R) n a
  old : ∀ a, a < n → hgt (rv R) n r a ≤ s a
  done : ∀ a, a < a0 → a < n → hgt (rv R) n (r + 1) a ≤ s a
  now : ∀ c, c < c0 → c < n → R c a0 = true → 1 + hgt (rv R) n r c ≤ s a0
theorem StepsI.start (R : Nat → Nat → Bool) (n : Nat) : StepsI R n 0 0 0 (fun _ => 0) :=
  ⟨fun a _ => Nat.zero_le _, fun a _ => by rw [hgt]; exact Nat.le_refl _, fun a h => by omega, fun c h => by omega⟩
theorem StepsI.skip {R : Nat → Nat → Bool} {n r a c : Nat} {s : Nat → Nat} (h : StepsI R n r a c s) (hc : R c a = false) : StepsI R n r a (c + 1) s :=
  ⟨h.most, h.old, h.done, fun d hd hdn hR => by
    by_cases e : d = c
    · subst e; rw [hc] at hR; cases hR
    · exact h.now d (by omega) hdn hR⟩
theorem StepsI.raise {R : Nat → Nat → Bool} {n r a c : Nat} {s : Nat → Nat} (hA : Acy R n) (hr : ∀ a b, R a b = true → a < n) (h : StepsI R n r a c s) (ha : a < n) (hcn : c < n) (hc : R c a = true) : StepsI R n r a (c + 1) (fun x => if x = a then max (s a) (s c + 1) else s x) := by
  have hca : c ≠ a := by intro e; subst e; rw [hA.irr] at hc; cases hc
  have hs := hg_step (rv_acy hA hr) (a := a) (b := c) hc
  refine ⟨fun x hx => ?_, fun x hx => ?_, fun x hx hxn => ?_, fun d hd hdn hR => ?_⟩
  · split
    · rename_i e; subst e
      have h1 := h.most x hx; have h2 := h.most c hcn; omega
    · exact h.most x hx
  · split
    · rename_i e; subst e; have := h.old x hx; omega
    · exact h.old x hx
  · rw [if_neg (by omega)]; exact h.done x hx hxn
  · rw [if_pos rfl]
    by_cases e : d = c
    · subst e; have := h.old d hdn; omega
    · have := h.now d (by omega) hdn hR; omega
theorem StepsI.next {R : Nat → Nat → Bool} {n r a : Nat} {s : Nat → Nat} (h : StepsI R n r a n s) : StepsI R n r (a + 1) 0 s :=
  ⟨h.most, h.old, fun x hx hxn => by
    by_cases e : x = a
    · subst e
      rw [hgt]
      refine maxL_le fun y hy => ?_
      rw [List.mem_map] at hy
      obtain ⟨c, hc, rfl⟩ := hy
      rw [List.mem_filter, List.mem_range] at hc
      exact h.now c hc.1 hc.1 hc.2
    · exact h.done x (by omega) hxn, fun c h => by omega⟩
theorem StepsI.round {R : Nat → Nat → Bool} {n r : Nat} {s : Nat → Nat} (h : StepsI R n r n 0 s) : StepsI R n (r + 1) 0 0 s :=
  ⟨h.most, fun a ha => h.done a ha ha, fun a h => by omega, fun c h => by omega⟩
theorem StepsI.ends {R : Nat → Nat → Bool} {n : Nat} {s : Nat → Nat} (h : StepsI R n n 0 0 s) {a : Nat} (ha : a < n) : s a = hg (rv R) n a :=
  Nat.le_antisymm (h.most a ha) (h.old a ha)
/-- The greatest of the first so many. -/
def mostF (s : Nat → Nat) : Nat → Nat
  | 0 => 0
  | k + 1 => max (mostF s k) (s k)
theorem mostF_ge {s : Nat → Nat} : ∀ {k a : Nat}, a < k → s a ≤ mostF s k
  | k + 1, a, h => by
    rw [mostF]
    by_cases e : a = k
    · subst e; omega
    · have := mostF_ge (s := s) (k := k) (a := a) (by omega); omega
theorem mostF_is {s : Nat → Nat} : ∀ {k : Nat}, mostF s k = 0 ∨ ∃ a, a < k ∧ mostF s k ≤ s a
  | 0 => .inl rfl
  | k + 1 => by
    rw [mostF]
    rcases mostF_is (s := s) (k := k) with h | ⟨a, ha, h⟩
    · by_cases e : s k = 0
      · exact .inl (by omega)
      · exact .inr ⟨k, by omega, by omega⟩
    · by_cases e : mostF s k ≤ s k
      · exact .inr ⟨k, by omega, by omega⟩
      · exact .inr ⟨a, by omega, by omega⟩
theorem height_most {R : Nat → Nat → Bool} {n : Nat} {s : Nat → Nat} (h : Acy R n) (hr : ∀ a b, R a b = true → a < n) (hb : ∀ a, a < n → bel R 0 a = true) (hn : 0 < n) (hs : StepsI R n n 0 0 s) : mostF s n = hg R n 0 := by
  refine depth_max h hr hb hn (fun a ha => by rw [← hs.ends ha]; exact mostF_ge ha) ?_
  rcases mostF_is (s := s) (k := n) with h | ⟨a, ha, h1⟩
  · exact .inl h
  · exact .inr ⟨a, ha, by rw [← hs.ends ha]; exact h1⟩
end Go.Proofs.YtmooikdodbjgpaaDoor.Or
