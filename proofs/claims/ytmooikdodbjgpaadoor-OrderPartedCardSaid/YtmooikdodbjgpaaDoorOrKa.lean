/- In a lattice each element is the join of its parts; what OrderParted says of them. No program is spoken of here but by its contracts. -/
import Derived.Test.YtmooikdodbjgpaaDoorOrGa
set_option linter.unusedVariables false
set_option linter.unusedSimpArgs false
namespace Go.Proofs.YtmooikdodbjgpaaDoor.Or

/-- The parts, by steps and number. -/
def ptP (R : Nat → Nat → Bool) (n e i : Nat) : Bool := primeO R n i && bel R i e
def ptF (R : Nat → Nat → Bool) (n e i : Nat) : Bool := ptP R n e i && !(List.range n).any fun c => R i c && ptP R n e c
def ptL (R : Nat → Nat → Bool) (n e : Nat) : List Nat := (List.range n).filter (ptF R n e)
theorem partsL_eq (t : Tab) (a : Nat) : partsL t a = ptL t.R t.n a := rfl
theorem mem_ptL {R : Nat → Nat → Bool} {n e i : Nat} : i ∈ ptL R n e ↔ i < n ∧ ptF R n e i = true := by
  unfold ptL; rw [List.mem_filter, List.mem_range]
theorem ptF_yes {R : Nat → Nat → Bool} {n e i : Nat} : ptF R n e i = true ↔ primeO R n i = true ∧ bel R i e = true ∧ ∀ c, c < n → R i c = true → primeO R n c = true → bel R c e = false := by
  unfold ptF ptP
  rw [Bool.and_eq_true, Bool.and_eq_true, Bool.not_eq_true', List.any_eq_false]
  constructor
  · rintro ⟨⟨h1, h2⟩, h3⟩
    refine ⟨h1, h2, fun c hc hR hp => ?_⟩
    have := h3 c (List.mem_range.2 hc)
    rw [hR, hp] at this
    simpa using this
  · rintro ⟨h1, h2, h3⟩
    refine ⟨⟨h1, h2⟩, fun c hc => ?_⟩
    rw [List.mem_range] at hc
    cases hR : R i c with
    | false => simp
    | true =>
      cases hp : primeO R n c with
      | false => simp
      | true => rw [h3 c hc hR hp]; simp
theorem prime_lt {R : Nat → Nat → Bool} {n p : Nat} (h : primeO R n p = true) : 0 < p ∧ p < n := by
  unfold primeO at h
  simp only [Bool.and_eq_true, decide_eq_true_eq] at h
  exact h.1
theorem bel_step {R : Nat → Nat → Bool} {a b : Nat} (h : bel R a b = true) (hn : a ≠ b) : R a b = true := by
  unfold bel at h
  simp only [Bool.or_eq_true, beq_iff_eq] at h
  exact h.resolve_left hn
theorem step_bel {R : Nat → Nat → Bool} {a b : Nat} (h : R a b = true) : bel R a b = true := by
  unfold bel; rw [h, Bool.or_true]

/-- Each prime below an element is below one of its parts. -/
theorem part_up {R : Nat → Nat → Bool} {n e : Nat} (h : Acy R n) : ∀ (k : Nat) {p : Nat}, cntU R n p ≤ k → primeO R n p = true → bel R p e = true → ∃ q, q ∈ ptL R n e ∧ bel R p q = true := by
  intro k
  induction k with
  | zero =>
    intro p hk hp he
    refine ⟨p, mem_ptL.2 ⟨(prime_lt hp).2, ptF_yes.2 ⟨hp, he, fun c hc hR _ => ?_⟩⟩, bel_self _ _⟩
    have := cnt_less h hR
    omega
  | succ k ih =>
    intro p hk hp he
    by_cases hx : ∃ c, c < n ∧ R p c = true ∧ primeO R n c = true ∧ bel R c e = true
    · obtain ⟨c, hc, hR, hpc, hce⟩ := hx
      have := cnt_less h hR
      obtain ⟨q, hq, hcq⟩ := ih (p := c) (by omega) hpc hce
      exact ⟨q, hq, bel_trans h (step_bel hR) hcq⟩
    · refine ⟨p, mem_ptL.2 ⟨(prime_lt hp).2, ptF_yes.2 ⟨hp, he, fun c hc hR hpc => ?_⟩⟩, bel_self _ _⟩
      cases hb : bel R c e with
      | false => rfl
      | true => exact absurd ⟨c, hc, hR, hpc, hb⟩ hx

/-- An element is below each one that the primes below it are below. -/
theorem prime_below {R : Nat → Nat → Bool} {n : Nat} {wr : Nat → Bool} (hL : Lat R n wr) (hA : Acy R n) {c : Nat} (hc : c < n) : ∀ (k : Nat) {a : Nat}, n - cntU R n a ≤ k → a < n → (∀ p, primeO R n p = true → bel R p a = true → bel R p c = true) → bel R a c = true := by
  intro k
  induction k with
  | zero =>
    intro a hk ha _
    have h1 := filter_less (p := R a) (q := fun _ => true) (fun _ _ => rfl) (z := a) (hA.irr a) rfl (l := List.range n) (List.mem_range.2 ha)
    rw [List.filter_eq_self.2 (fun _ _ => rfl), List.length_range] at h1
    unfold cntU at hk
    omega
  | succ k ih =>
    intro a hk ha hp
    by_cases h0 : a = 0
    · subst h0; exact hL.base c hc
    · cases hpa : primeO R n a with
      | true => exact hp a hpa (bel_self _ _)
      | false =>
        unfold primeO at hpa
        rw [decide_eq_true (show 0 < a by omega), decide_eq_true ha, Bool.true_and, Bool.true_and, Bool.not_eq_false', List.any_eq_true] at hpa
        obtain ⟨⟨x, y⟩, hxy, hj⟩ := hpa
        obtain ⟨hlt, hy⟩ := mem_pairsL.1 hxy
        simp only [joinedBy, Bool.and_eq_true, beq_iff_eq, bne_iff_ne, ne_eq] at hj
        obtain ⟨hj, hne1, hne2⟩ := hj
        have hx : x < n := by omega
        have hjn : jn R n x y = a := by unfold jn; rw [hj]; rfl
        obtain ⟨s1, s2, s3, s4⟩ := jn_spec hL hA hx hy
        rw [hjn] at s1 s2 s3 s4
        have rx := bel_step s2 (fun h => hne1 h.symm)
        have ry := bel_step s3 (fun h => hne2 h.symm)
        have cx := cnt_less hA rx
        have cy := cnt_less hA ry
        have lx := cnt_le R n x
        have ly := cnt_le R n y
        refine s4 c hc (ih (by omega) hx fun p h1 h2 => hp p h1 (bel_trans hA h2 s2)) (ih (by omega) hy fun p h1 h2 => hp p h1 (bel_trans hA h2 s3))

/-- The join of several elements, one after the other. -/
def jnL (R : Nat → Nat → Bool) (n : Nat) (l : List Nat) : Nat := l.foldl (jn R n) 0
theorem jnL_snoc (R : Nat → Nat → Bool) (n : Nat) (l : List Nat) (x : Nat) : jnL R n (l ++ [x]) = jn R n (jnL R n l) x := by
  unfold jnL; rw [List.foldl_append]; rfl
theorem jnL_spec {R : Nat → Nat → Bool} {n : Nat} {wr : Nat → Bool} (hL : Lat R n wr) (hA : Acy R n) (hn : 0 < n) (l : List Nat) : (∀ x ∈ l, x < n) → jnL R n l < n ∧ (∀ x ∈ l, bel R x (jnL R n l) = true) ∧ ∀ c, c < n → (∀ x ∈ l, bel R x c = true) → bel R (jnL R n l) c = true := by
  have key : ∀ (l : List Nat) (z : Nat), z < n → (∀ x ∈ l, x < n) → l.foldl (jn R n) z < n ∧ bel R z (l.foldl (jn R n) z) = true ∧ (∀ x ∈ l, bel R x (l.foldl (jn R n) z) = true) ∧ ∀ c, c < n → bel R z c = true → (∀ x ∈ l, bel R x c = true) → bel R (l.foldl (jn R n) z) c = true := by
    intro l
    induction l with
    | nil =>
      intro z hz _
      exact ⟨hz, bel_self _ _, by simp, fun c _ h _ => h⟩
    | cons y l ih =>
      intro z hz hl
      have hy := hl y (by simp)
      obtain ⟨s1, s2, s3, s4⟩ := jn_spec hL hA hz hy
      obtain ⟨u1, u2, u3, u4⟩ := ih (jn R n z y) s1 (fun x hx => hl x (by simp [hx]))
      rw [List.foldl_cons]
      refine ⟨u1, bel_trans hA s2 u2, fun x hx => ?_, fun c hc hzc hlc => u4 c hc (s4 c hc hzc (hlc y (by simp))) fun x hx => hlc x (by simp [hx])⟩
      rw [List.mem_cons] at hx
      rcases hx with rfl | hx
      · exact bel_trans hA s3 u2
      · exact u3 x hx
  intro hl
  obtain ⟨h1, h2, h3, h4⟩ := key l 0 hn hl
  exact ⟨h1, h3, fun c hc h => h4 c hc (hL.base c hc) h⟩

/-- An element is the join of its parts. -/
theorem parts_join {R : Nat → Nat → Bool} {n : Nat} {wr : Nat → Bool} (hL : Lat R n wr) (hA : Acy R n) {a : Nat} (ha : a < n) : jnL R n (ptL R n a) = a := by
  obtain ⟨h1, h2, h3⟩ := jnL_spec hL hA (by omega) (ptL R n a) (fun x hx => (mem_ptL.1 hx).1)
  refine bel_anti hA (h3 a ha fun x hx => (ptF_yes.1 (mem_ptL.1 hx).2).2.1) ?_
  refine prime_below hL hA h1 _ (Nat.le_refl _) ha fun p hp hpa => ?_
  obtain ⟨q, hq, hpq⟩ := part_up hA _ (Nat.le_refl _) hp hpa
  exact bel_trans hA hpq (h2 q hq)
/-- A prime is its only part. -/
theorem prime_part {R : Nat → Nat → Bool} {n p : Nat} (hA : Acy R n) (hp : primeO R n p = true) : ptL R n p = [p] := by
  have hlt := (prime_lt hp).2
  have key : ∀ i, i < n → ptF R n p i = (i == p) := by
    intro i hi
    by_cases e : i = p
    · subst e
      rw [beq_self_eq_true]
      refine ptF_yes.2 ⟨hp, bel_self _ _, fun c hc hR hpc => ?_⟩
      cases hb : bel R c i with
      | false => rfl
      | true =>
        have := bel_anti hA (step_bel hR) hb
        subst this
        rw [hA.irr] at hR; cases hR
    · rw [beq_eq_false_iff_ne.2 e]
      cases hb : ptF R n p i with
      | false => rfl
      | true =>
        obtain ⟨h1, h2, h3⟩ := ptF_yes.1 hb
        have := h3 p hlt (bel_step h2 e) hp
        rw [bel_self] at this; cases this
  unfold ptL
  rw [List.filter_congr (q := fun i => i == p) (fun i hi => key i (List.mem_range.1 hi))]
  clear key hp hA
  induction n with
  | zero => omega
  | succ m ih =>
    rw [List.range_succ, List.filter_append]
    by_cases e : p = m
    · subst e
      have : (List.range p).filter (fun i => i == p) = [] := by
        rw [List.filter_eq_nil_iff]
        intro i hi
        rw [List.mem_range] at hi
        simp; omega
      rw [this]; simp
    · rw [ih (by omega)]
      simp; omega
/-- Of an element below another one each part is below some part of that one. -/
theorem parts_below {R : Nat → Nat → Bool} {n a b p : Nat} (hA : Acy R n) (hab : bel R a b = true) (hp : p ∈ ptL R n a) : ((ptL R n b).any fun q => bel R p q) = true := by
  obtain ⟨h1, h2, _⟩ := ptF_yes.1 (mem_ptL.1 hp).2
  obtain ⟨q, hq, hpq⟩ := part_up hA _ (Nat.le_refl _) h1 (bel_trans hA h2 hab)
  exact List.any_eq_true.2 ⟨q, hq, hpq⟩
end Go.Proofs.YtmooikdodbjgpaaDoor.Or
