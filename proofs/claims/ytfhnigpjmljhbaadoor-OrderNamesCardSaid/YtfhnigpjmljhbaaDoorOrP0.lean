/- What is of no program: steps, groups, joins, breaks, primes, heights. -/

set_option linter.unusedVariables false
set_option linter.unusedSimpArgs false
/- Steps of a relation on numbers: what is reached by one step or more; the closure turn by turn; the closure by a queue. No program is spoken of here. -/
namespace Go.Proofs.YtfhnigpjmljhbaaDoor.Or

/-- One comes from a to b by one step or more. -/
inductive Pth (E : Nat → Nat → Bool) : Nat → Nat → Prop
  | one {a b : Nat} : E a b = true → Pth E a b
  | more {a c b : Nat} : E a c = true → Pth E c b → Pth E a b

theorem Pth.trans {E : Nat → Nat → Bool} {a c b : Nat} (h1 : Pth E a c) (h2 : Pth E c b) : Pth E a b := by
  induction h1 with
  | one h => exact .more h h2
  | more h _ ih => exact .more h (ih h2)

/-- The steps that are known after k turns: those of ways that are between their ends by numbers below k. -/
def war (E : Nat → Nat → Bool) : Nat → Nat → Nat → Bool
  | 0, a, b => E a b
  | k + 1, a, b => war E k a b || (war E k a k && war E k k b)

theorem war_mono {E : Nat → Nat → Bool} {a b : Nat} {k : Nat} (h : war E k a b = true) : war E (k + 1) a b = true := by
  simp [war, h]
theorem war_edge {E : Nat → Nat → Bool} {a b : Nat} (h : E a b = true) : ∀ k, war E k a b = true
  | 0 => h
  | k + 1 => war_mono (war_edge h k)
theorem war_path {E : Nat → Nat → Bool} : ∀ {k a b : Nat}, war E k a b = true → Pth E a b
  | 0, a, b, h => .one h
  | k + 1, a, b, h => by
    simp only [war, Bool.or_eq_true, Bool.and_eq_true] at h
    rcases h with h | ⟨h1, h2⟩
    · exact war_path h
    · exact (war_path h1).trans (war_path h2)
/-- What is known is closed at the numbers of the turns that are done. -/
theorem war_closed {E : Nat → Nat → Bool} : ∀ {k a c b : Nat}, c < k → war E k a c = true → war E k c b = true → war E k a b = true
  | 0, a, c, b, hc, _, _ => absurd hc (by omega)
  | k + 1, a, c, b, hc, h1, h2 => by
    simp only [war, Bool.or_eq_true, Bool.and_eq_true] at h1 h2 ⊢
    by_cases e : c = k
    · subst e
      have g1 : war E c a c = true := by rcases h1 with h | ⟨h, _⟩ <;> exact h
      have g2 : war E c c b = true := by rcases h2 with h | ⟨_, h⟩ <;> exact h
      exact .inr ⟨g1, g2⟩
    · have hck : c < k := by omega
      rcases h1 with h1 | ⟨h1, h1'⟩
      · rcases h2 with h2 | ⟨h2, h2'⟩
        · exact .inl (war_closed hck h1 h2)
        · exact .inr ⟨war_closed hck h1 h2, h2'⟩
      · rcases h2 with h2 | ⟨h2, h2'⟩
        · exact .inr ⟨h1, war_closed hck h1' h2⟩
        · exact .inr ⟨h1, h2'⟩
theorem path_war {E : Nat → Nat → Bool} {n : Nat} (hE : ∀ a b, E a b = true → b < n) {a b : Nat} (h : Pth E a b) : war E n a b = true := by
  induction h with
  | one h => exact war_edge h n
  | more h _ ih => exact war_closed (hE _ _ h) (war_edge h n) ih
theorem war_iff {E : Nat → Nat → Bool} {n : Nat} (hE : ∀ a b, E a b = true → b < n) {a b : Nat} : war E n a b = true ↔ Pth E a b := ⟨war_path, path_war hE⟩

/-- What holds where a queue has run dry: what was seen is what is reached. -/
theorem queue_done {E : Nat → Nat → Bool} {a : Nat} {seen : Nat → Bool} (h1 : ∀ x, seen x = true → Pth E a x) (h2 : ∀ x, (x = a ∨ seen x = true) → ∀ y, E x y = true → seen y = true) (b : Nat) : seen b = true ↔ Pth E a b := by
  refine ⟨h1 b, fun h => ?_⟩
  have key : ∀ x y, Pth E x y → (x = a ∨ seen x = true) → seen y = true := by
    intro x y hp
    induction hp with
    | one he => exact fun hx => h2 _ hx _ he
    | more he _ ih => exact fun hx => ih (.inr (h2 _ hx _ he))
  exact key a b h (.inl rfl)

/-- The state of the queue: what was seen is reached; what is in the queue is the start, or was seen; whatever is the start or was seen stands in the queue, or all that is one step from it was seen. -/
structure Queue (E : Nat → Nat → Bool) (a : Nat) (seen : Nat → Bool) (todo : List Nat) : Prop where
  path : ∀ x, seen x = true → Pth E a x
  mem : ∀ x ∈ todo, x = a ∨ seen x = true
  done : ∀ x, (x = a ∨ seen x = true) → x ∈ todo ∨ ∀ y, E x y = true → seen y = true

theorem Queue.start (E : Nat → Nat → Bool) (a : Nat) : Queue E a (fun _ => false) [a] :=
  ⟨fun x h => (by cases h), fun x h => Or.inl (by simpa using h), fun x h => Or.inl (by rcases h with h | h <;> simp_all)⟩
theorem Queue.ends {E : Nat → Nat → Bool} {a : Nat} {seen : Nat → Bool} (h : Queue E a seen []) (b : Nat) : seen b = true ↔ Pth E a b :=
  queue_done h.path (fun x hx => by
    rcases h.done x hx with h | h
    · simp at h
    · exact h) b

/-- In the midst of the head's list: what is above the head up to here was seen. -/
structure Queue.Mid (E : Nat → Nat → Bool) (a x : Nat) (l : List Nat) (seen : Nat → Bool) (todo : List Nat) : Prop where
  path : ∀ y, seen y = true → Pth E a y
  mem : ∀ y ∈ todo, y = a ∨ seen y = true
  head : x = a ∨ seen x = true
  upto : ∀ y ∈ l, seen y = true
  done : ∀ z, (z = a ∨ seen z = true) → z = x ∨ z ∈ todo ∨ ∀ y, E z y = true → seen y = true

theorem Queue.pop {E : Nat → Nat → Bool} {a x : Nat} {seen : Nat → Bool} {todo : List Nat} (h : Queue E a seen (x :: todo)) : Queue.Mid E a x [] seen todo :=
  ⟨h.path, fun y hy => h.mem y (List.mem_cons_of_mem _ hy), h.mem x (List.mem_cons_self ..), fun y hy => by simp at hy, fun z hz => by
    rcases h.done z hz with h | h
    · rcases List.mem_cons.1 h with h | h
      · exact .inl h
      · exact .inr (.inl h)
    · exact .inr (.inr h)⟩
theorem Queue.Mid.old {E : Nat → Nat → Bool} {a x y : Nat} {l : List Nat} {seen : Nat → Bool} {todo : List Nat} (h : Queue.Mid E a x l seen todo) (hy : seen y = true) : Queue.Mid E a x (l ++ [y]) seen todo :=
  ⟨h.path, h.mem, h.head, fun z hz => by
    rcases List.mem_append.1 hz with hz | hz
    · exact h.upto z hz
    · have : z = y := by simpa using hz
      rw [this]; exact hy, h.done⟩
theorem Queue.Mid.new {E : Nat → Nat → Bool} {a x y : Nat} {l : List Nat} {seen : Nat → Bool} {todo : List Nat} (h : Queue.Mid E a x l seen todo) (he : E x y = true) : Queue.Mid E a x (l ++ [y]) (fun z => seen z || z == y) (todo ++ [y]) := by
  have hxy : Pth E a y := by
    rcases h.head with hx | hx
    · rw [← hx]; exact .one he
    · exact (h.path x hx).trans (.one he)
  refine ⟨fun z hz => ?_, fun z hz => ?_, ?_, fun z hz => ?_, fun z hz => ?_⟩
  · simp only [Bool.or_eq_true, beq_iff_eq] at hz
    rcases hz with hz | hz
    · exact h.path z hz
    · rw [hz]; exact hxy
  · rcases List.mem_append.1 hz with hz | hz
    · rcases h.mem z hz with h | h
      · exact .inl h
      · exact .inr (by simp [h])
    · exact .inr (by simp at hz; simp [hz])
  · rcases h.head with h | h
    · exact .inl h
    · exact .inr (by simp [h])
  · rcases List.mem_append.1 hz with hz | hz
    · simp [h.upto z hz]
    · simp at hz; simp [hz]
  · by_cases e : z = y
    · exact .inr (.inl (by simp [e]))
    · have hz' : z = a ∨ seen z = true := by
        rcases hz with hz | hz
        · exact .inl hz
        · simp only [Bool.or_eq_true, beq_iff_eq] at hz
          rcases hz with hz | hz
          · exact .inr hz
          · exact absurd hz e
      rcases h.done z hz' with h | h | h
      · exact .inl h
      · exact .inr (.inl (List.mem_append_left _ h))
      · exact .inr (.inr fun w hw => by simp [h w hw])
theorem Queue.Mid.next {E : Nat → Nat → Bool} {a x : Nat} {l : List Nat} {seen : Nat → Bool} {todo : List Nat} (h : Queue.Mid E a x l seen todo) (hl : ∀ y, E x y = true → y ∈ l) : Queue E a seen todo :=
  ⟨h.path, h.mem, fun z hz => by
    rcases h.done z hz with h' | h' | h'
    · subst h'; exact .inr fun y hy => h.upto y (hl y hy)
    · exact .inl h'
    · exact .inr h'⟩
end Go.Proofs.YtfhnigpjmljhbaaDoor.Or
/- Groups: sets of small numbers as the bits of a number; the least one of a group, and the group without it. No program is spoken of here. -/
namespace Go.Proofs.YtfhnigpjmljhbaaDoor.Or

/-- The group of the numbers below n of which something holds. -/
def grp (p : Nat → Bool) : Nat → Nat
  | 0 => 0
  | n + 1 => grp p n + (if p n then 2 ^ n else 0)
theorem grp_lt (p : Nat → Bool) : ∀ n, grp p n < 2 ^ n
  | 0 => by simp [grp]
  | n + 1 => by
    have := grp_lt p n
    rw [grp, Nat.pow_succ]
    split <;> omega
theorem grp_bit (p : Nat → Bool) : ∀ n i, (grp p n).testBit i = (decide (i < n) && p i)
  | 0, i => by simp [grp]
  | n + 1, i => by
    have hlt := grp_lt p n
    rw [grp]
    cases hp : p n with
    | false =>
      simp only [Bool.false_eq_true, if_false, Nat.add_zero]
      rw [grp_bit p n i]
      by_cases e : i = n
      · subst e; simp [hp]
      · have : decide (i < n) = decide (i < n + 1) := decide_eq_decide.2 (by omega)
        rw [this]
    | true =>
      rw [if_pos rfl, Nat.add_comm, show 2 ^ n + grp p n = 2 ^ n * 1 + grp p n by omega, Nat.testBit_two_pow_mul_add 1 hlt i]
      by_cases h : i < n
      · rw [if_pos h, grp_bit p n i]
        simp [h, show i < n + 1 by omega]
      · rw [if_neg h]
        by_cases e : i = n
        · subst e; simp [hp]
        · have : i - n ≠ 0 := by omega
          rw [show decide (i < n + 1) = false from decide_eq_false (by omega), Bool.false_and]
          obtain ⟨k, hk⟩ : ∃ k, i - n = k + 1 := ⟨i - n - 1, by omega⟩
          rw [hk, Nat.testBit_succ]; simp
/-- A number whose bits are those of a group is the group. -/
theorem grp_of {g n : Nat} {p : Nat → Bool} (h : ∀ i, g.testBit i = (decide (i < n) && p i)) : g = grp p n :=
  Nat.eq_of_testBit_eq fun i => by rw [h, grp_bit]

/-- A number that is not 0 in its parts: what stands above its lowest bit, and that bit. -/
theorem low_parts : ∀ {g : Nat}, g ≠ 0 → ∃ t q, g = 2 ^ t * (2 * q + 1) := by
  intro g
  induction g using Nat.strongRecOn with
  | _ g ih =>
    intro hg
    by_cases h : g % 2 = 1
    · exact ⟨0, g / 2, by omega⟩
    · obtain ⟨t, q, e⟩ := ih (g / 2) (by omega) (by omega)
      refine ⟨t + 1, q, ?_⟩
      rw [Nat.pow_succ, Nat.mul_comm (2 ^ t) 2, Nat.mul_assoc, ← e]; omega
theorem low_bit (t q i : Nat) : (2 ^ t * (2 * q + 1)).testBit i = (decide (t ≤ i) && (decide (i = t) || q.testBit (i - (t + 1)))) := by
  have h := Nat.testBit_two_pow_mul_add (2 * q + 1) (show 0 < 2 ^ t from Nat.pow_pos (by decide)) i
  rw [Nat.add_zero] at h
  rw [h]
  by_cases c : i < t
  · rw [if_pos c, show decide (t ≤ i) = false from decide_eq_false (by omega)]; simp
  · rw [if_neg c, show decide (t ≤ i) = true from decide_eq_true (by omega), Bool.true_and]
    by_cases e : i = t
    · subst e; simp
    · rw [decide_eq_false e, Bool.false_or, show i - t = (i - (t + 1)) + 1 by omega, Nat.testBit_succ]
      congr 1; omega
/-- Without its lowest bit. -/
theorem low_drop (t q : Nat) : 2 ^ t * (2 * q + 1) &&& (2 ^ t * (2 * q + 1) - 1) = 2 ^ (t + 1) * q := by
  have hp : 0 < 2 ^ t := Nat.pow_pos (by decide)
  have e : 2 ^ t * (2 * q + 1) - 1 = 2 ^ t * (2 * q) + (2 ^ t - 1) := by rw [Nat.mul_add, Nat.mul_one]; omega
  rw [e]
  refine Nat.eq_of_testBit_eq fun i => ?_
  rw [Nat.testBit_and, low_bit, Nat.testBit_two_pow_mul_add (2 * q) (show 2 ^ t - 1 < 2 ^ t by omega) i]
  have h2 := Nat.testBit_two_pow_mul_add q (show 0 < 2 ^ (t + 1) from Nat.pow_pos (by decide)) i
  rw [Nat.add_zero] at h2
  rw [h2]
  by_cases c : i < t
  · rw [show decide (t ≤ i) = false from decide_eq_false (by omega), if_pos (show i < t + 1 by omega)]; simp
  · rw [show decide (t ≤ i) = true from decide_eq_true (by omega), if_neg c, Bool.true_and]
    by_cases e : i = t
    · subst e; rw [if_pos (by omega)]; simp
    · rw [decide_eq_false e, Bool.false_or, if_neg (show ¬ i < t + 1 by omega), show i - t = (i - (t + 1)) + 1 by omega, Nat.testBit_succ, show 2 * q / 2 = q by omega, Bool.and_self]
theorem drop_bit (t q i : Nat) : (2 ^ (t + 1) * q).testBit i = (decide (t < i) && (2 ^ t * (2 * q + 1)).testBit i) := by
  have h2 := Nat.testBit_two_pow_mul_add q (show 0 < 2 ^ (t + 1) from Nat.pow_pos (by decide)) i
  rw [Nat.add_zero] at h2
  rw [h2, low_bit]
  by_cases c : i < t + 1
  · rw [if_pos c, show decide (t < i) = false from decide_eq_false (by omega)]; simp
  · rw [if_neg c, show decide (t < i) = true from decide_eq_true (by omega), show decide (t ≤ i) = true from decide_eq_true (by omega), decide_eq_false (show ¬ i = t by omega)]; simp

/-- The elements of a group below n, ascending, from a number on. -/
def elems (g : Nat) (n : Nat) : List Nat := (List.range n).filter fun i => g.testBit i
theorem mem_elems {g n i : Nat} : i ∈ elems g n ↔ i < n ∧ g.testBit i = true := by simp [elems]
theorem elems_low {t q n : Nat} (h : 2 ^ t * (2 * q + 1) < 2 ^ n) : elems (2 ^ t * (2 * q + 1)) n = t :: elems (2 ^ (t + 1) * q) n := by
  have htn : t < n := by
    rcases Nat.lt_or_ge t n with h1 | h1
    · exact h1
    · have h2 : 2 ^ n ≤ 2 ^ t := Nat.pow_le_pow_right (by decide) h1
      have h3 : 2 ^ t * 1 ≤ 2 ^ t * (2 * q + 1) := Nat.mul_le_mul_left _ (by omega)
      omega
  unfold elems
  obtain ⟨r, hr⟩ : ∃ r, n = t + (1 + r) := ⟨n - t - 1, by omega⟩
  subst hr
  rw [List.range_add, List.filter_append, List.filter_append]
  have e1 : (List.range t).filter (fun i => (2 ^ t * (2 * q + 1)).testBit i) = [] := by
    rw [List.filter_eq_nil_iff]; intro i hi; rw [List.mem_range] at hi
    rw [low_bit, show decide (t ≤ i) = false from decide_eq_false (by omega)]; simp
  have e2 : (List.range t).filter (fun i => (2 ^ (t + 1) * q).testBit i) = [] := by
    rw [List.filter_eq_nil_iff]; intro i hi; rw [List.mem_range] at hi
    rw [drop_bit, show decide (t < i) = false from decide_eq_false (by omega)]; simp
  rw [e1, e2, List.nil_append, List.nil_append, List.range_add, List.map_append, List.filter_append, List.filter_append]
  have f1 : ((List.range 1).map (t + ·)).filter (fun i => (2 ^ t * (2 * q + 1)).testBit i) = [t] := by
    have : (2 ^ t * (2 * q + 1)).testBit t = true := by rw [low_bit]; simp
    simp [List.range_succ, this]
  have f2 : ((List.range 1).map (t + ·)).filter (fun i => (2 ^ (t + 1) * q).testBit i) = [] := by
    have : (2 ^ (t + 1) * q).testBit t = false := by rw [drop_bit]; simp
    simp [List.range_succ, this]
  rw [f1, f2, List.nil_append, List.singleton_append]
  congr 1
  refine List.filter_congr fun i hi => ?_
  have : t < i := by
    simp only [List.mem_map, List.mem_range] at hi
    obtain ⟨a, ⟨b, _, rfl⟩, rfl⟩ := hi
    omega
  rw [drop_bit, decide_eq_true this, Bool.true_and]
theorem elems_zero (n : Nat) : elems 0 n = [] := by
  unfold elems; rw [List.filter_eq_nil_iff]; intro i _; simp
end Go.Proofs.YtfhnigpjmljhbaaDoor.Or
/- What is above what, the least of some, the greatest number of steps. No program is spoken of here. -/
namespace Go.Proofs.YtfhnigpjmljhbaaDoor.Or

/-- Steps without a cycle, among the numbers below n. -/
structure Acy (R : Nat → Nat → Bool) (n : Nat) : Prop where
  trans : ∀ a b c, R a b = true → R b c = true → R a c = true
  irr : ∀ a, R a a = false
  rng : ∀ a b, R a b = true → b < n

/-- Whether one is below another one. -/
def bel (R : Nat → Nat → Bool) (a b : Nat) : Bool := a == b || R a b
/-- What is above all of some, ascending. -/
def ups (R : Nat → Nat → Bool) (n : Nat) (l : List Nat) : List Nat := (List.range n).filter fun c => l.all fun a => bel R a c
/-- The first one of some that is below all of them. -/
def leastF (R : Nat → Nat → Bool) (l : List Nat) : Option Nat := l.find? fun j => l.all fun c => bel R j c
/-- The join. -/
def joinO (R : Nat → Nat → Bool) (n a b : Nat) : Option Nat := leastF R (ups R n [a, b])

theorem find_only {p : Nat → Bool} : ∀ {l : List Nat} {x : Nat}, x ∈ l → p x = true → (∀ y ∈ l, p y = true → y = x) → l.find? p = some x
  | [], x, h, _, _ => by simp at h
  | y :: l, x, h, hp, hu => by
    by_cases c : p y = true
    · have : y = x := hu y (List.mem_cons_self ..) c
      subst this; simp [hp]
    · rw [List.find?_cons_of_neg c]
      refine find_only ?_ hp (fun z hz => hu z (List.mem_cons_of_mem _ hz))
      rcases List.mem_cons.1 h with h | h
      · subst h; exact absurd hp c
      · exact h
theorem mem_ups {R : Nat → Nat → Bool} {n c : Nat} {l : List Nat} : c ∈ ups R n l ↔ c < n ∧ ∀ a ∈ l, bel R a c = true := by
  simp [ups]
theorem bel_self (R : Nat → Nat → Bool) (a : Nat) : bel R a a = true := by simp [bel]
theorem bel_anti {R : Nat → Nat → Bool} {n a b : Nat} (h : Acy R n) (h1 : bel R a b = true) (h2 : bel R b a = true) : a = b := by
  simp only [bel, Bool.or_eq_true, beq_iff_eq] at h1 h2
  rcases h1 with h1 | h1
  · exact h1
  · rcases h2 with h2 | h2
    · exact h2.symm
    · have := h.trans _ _ _ h1 h2; rw [h.irr] at this; cases this
theorem bel_trans {R : Nat → Nat → Bool} {n a b c : Nat} (h : Acy R n) (h1 : bel R a b = true) (h2 : bel R b c = true) : bel R a c = true := by
  simp only [bel, Bool.or_eq_true, beq_iff_eq] at h1 h2 ⊢
  rcases h1 with rfl | h1
  · exact h2
  · rcases h2 with rfl | h2
    · exact .inr h1
    · exact .inr (h.trans _ _ _ h1 h2)
/-- The least of some, where there is one: it is the only one. -/
theorem least_of {R : Nat → Nat → Bool} {n x : Nat} {l : List Nat} (h : Acy R n) (hx : x ∈ l) (hl : ∀ c ∈ l, bel R x c = true) : leastF R l = some x :=
  find_only hx (by rw [List.all_eq_true]; exact hl) fun y hy hp => by
    rw [List.all_eq_true] at hp
    exact bel_anti h (hp x hx) (hl y hy)
theorem least_some {R : Nat → Nat → Bool} {x : Nat} {l : List Nat} (h : leastF R l = some x) : x ∈ l ∧ ∀ c ∈ l, bel R x c = true :=
  ⟨List.mem_of_find?_eq_some h, by have := List.find?_some h; rwa [List.all_eq_true] at this⟩
theorem ups_swap (R : Nat → Nat → Bool) (n a b : Nat) : ups R n [a, b] = ups R n [b, a] := by
  unfold ups; congr 1; funext c; simp [Bool.and_comm]
theorem join_swap (R : Nat → Nat → Bool) (n a b : Nat) : joinO R n a b = joinO R n b a := by unfold joinO; rw [ups_swap]
theorem join_self {R : Nat → Nat → Bool} {n a : Nat} (h : Acy R n) (ha : a < n) : joinO R n a a = some a :=
  least_of h (mem_ups.2 ⟨ha, fun x hx => by simp at hx; rw [hx]; exact bel_self R a⟩) fun c hc => (mem_ups.1 hc).2 a (by simp)

/-- How many there are above. -/
def cntU (R : Nat → Nat → Bool) (n a : Nat) : Nat := ((List.range n).filter (R a)).length
theorem filter_sub {p q : Nat → Bool} (hpq : ∀ x, p x = true → q x = true) : ∀ (l : List Nat), (l.filter p).length ≤ (l.filter q).length
  | [] => by simp
  | x :: l => by
    have ih := filter_sub hpq l
    cases hp : p x with
    | true => simp [hp, hpq x hp]; exact ih
    | false => cases hq : q x <;> simp [hp, hq] <;> omega
theorem filter_less {p q : Nat → Bool} (hpq : ∀ x, p x = true → q x = true) {z : Nat} (hz1 : p z = false) (hz2 : q z = true) : ∀ {l : List Nat}, z ∈ l → (l.filter p).length < (l.filter q).length
  | [], h => by simp at h
  | x :: l, h => by
    have ih := filter_sub hpq l
    rcases List.mem_cons.1 h with h | h
    · subst h; simp [hz1, hz2]; omega
    · have ih2 := filter_less hpq hz1 hz2 h
      cases hp : p x with
      | true => simp [hp, hpq x hp]; exact ih2
      | false => cases hq : q x <;> simp [hp, hq] <;> omega
theorem cnt_less {R : Nat → Nat → Bool} {n a b : Nat} (h : Acy R n) (hab : R a b = true) : cntU R n b < cntU R n a :=
  filter_less (p := R b) (q := R a) (z := b) (fun x hx => h.trans _ _ _ hab hx) (h.irr b) hab (List.mem_range.2 (h.rng _ _ hab))
theorem cnt_le (R : Nat → Nat → Bool) (n a : Nat) : cntU R n a ≤ n := by
  have := List.length_filter_le (R a) (List.range n); simpa [cntU] using this

/-- Whether one is right above another one. -/
def cov (R : Nat → Nat → Bool) (n a b : Nat) : Bool := R a b && !(List.range n).any fun c => R a c && R c b
theorem cov_exists {R : Nat → Nat → Bool} {n a : Nat} (h : Acy R n) : ∀ (k : Nat) {b : Nat}, n - cntU R n b ≤ k → R a b = true → ∃ c, cov R n a c = true ∧ bel R c b = true := by
  intro k
  induction k with
  | zero =>
    intro b hk hab
    have := cnt_less h hab; have := cnt_le R n a; omega
  | succ k ih =>
    intro b hk hab
    cases hc : cov R n a b with
    | true => exact ⟨b, hc, bel_self R b⟩
    | false =>
      unfold cov at hc
      rw [hab, Bool.true_and, Bool.not_eq_false', List.any_eq_true] at hc
      obtain ⟨c, _, hc⟩ := hc
      rw [Bool.and_eq_true] at hc
      have hl := cnt_less h hc.2
      have := cnt_le R n c
      obtain ⟨d, hd1, hd2⟩ := ih (b := c) (by omega) hc.1
      exact ⟨d, hd1, bel_trans h hd2 (by simp [bel, hc.2])⟩

/-- The greatest of some numbers and 0. -/
def maxL (l : List Nat) : Nat := l.foldl max 0
theorem foldl_max (l : List Nat) : ∀ m, l.foldl max m = max m (l.foldl max 0) := by
  induction l with
  | nil => intro m; simp
  | cons x l ih => intro m; simp only [List.foldl_cons]; rw [ih (max m x), ih (max 0 x)]; omega
theorem maxL_cons (x : Nat) (l : List Nat) : maxL (x :: l) = max x (maxL l) := by
  unfold maxL; rw [List.foldl_cons, foldl_max]; omega
theorem maxL_mem {l : List Nat} {x : Nat} (h : x ∈ l) : x ≤ maxL l := by
  induction l with
  | nil => simp at h
  | cons y l ih =>
    rw [maxL_cons]
    rcases List.mem_cons.1 h with h | h
    · omega
    · have := ih h; omega
theorem maxL_le {l : List Nat} {m : Nat} (h : ∀ x ∈ l, x ≤ m) : maxL l ≤ m := by
  induction l with
  | nil => simp [maxL]
  | cons y l ih =>
    rw [maxL_cons]
    have := h y (List.mem_cons_self ..)
    have := ih (fun x hx => h x (List.mem_cons_of_mem _ hx))
    omega
/-- The greatest number of steps, by all that is above, and by what is right above. -/
def hgt (R : Nat → Nat → Bool) (n : Nat) : Nat → Nat → Nat
  | 0, a => 0
  | f + 1, a => maxL (((List.range n).filter (R a)).map fun b => 1 + hgt R n f b)
def hgtC (R : Nat → Nat → Bool) (n : Nat) : Nat → Nat → Nat
  | 0, a => 0
  | f + 1, a => maxL (((List.range n).filter (cov R n a)).map fun b => 1 + hgtC R n f b)
theorem hgt_fuel {R : Nat → Nat → Bool} {n : Nat} (h : Acy R n) : ∀ {f g a : Nat}, cntU R n a ≤ f → cntU R n a ≤ g → hgt R n f a = hgt R n g a := by
  have key : ∀ {f g a : Nat}, cntU R n a ≤ f → cntU R n a ≤ g → hgt R n f a ≤ hgt R n g a := by
    intro f
    induction f with
    | zero => intro g a _ _; simp [hgt]
    | succ f ih =>
      intro g a hf hg
      rw [hgt]
      refine maxL_le fun x hx => ?_
      rw [List.mem_map] at hx
      obtain ⟨b, hb, rfl⟩ := hx
      rw [List.mem_filter, List.mem_range] at hb
      have hl := cnt_less h hb.2
      obtain ⟨g', rfl⟩ : ∃ g', g = g' + 1 := ⟨g - 1, by omega⟩
      have := ih (g := g') (a := b) (by omega) (by omega)
      have h2 : 1 + hgt R n g' b ≤ hgt R n (g' + 1) a := by
        rw [hgt]; exact maxL_mem (List.mem_map.2 ⟨b, List.mem_filter.2 ⟨List.mem_range.2 hb.1, hb.2⟩, rfl⟩)
      omega
  intro f g a h1 h2
  exact Nat.le_antisymm (key h1 h2) (key h2 h1)
theorem hgt_cov {R : Nat → Nat → Bool} {n : Nat} (h : Acy R n) : ∀ {f a : Nat}, cntU R n a ≤ f → hgtC R n f a = hgt R n f a := by
  intro f
  induction f with
  | zero => intro a _; rfl
  | succ f ih =>
    intro a hf
    refine Nat.le_antisymm ?_ ?_
    · rw [hgtC]
      refine maxL_le fun x hx => ?_
      rw [List.mem_map] at hx
      obtain ⟨b, hb, rfl⟩ := hx
      rw [List.mem_filter, List.mem_range] at hb
      have hab : R a b = true := by have := hb.2; unfold cov at this; rw [Bool.and_eq_true] at this; exact this.1
      have hl := cnt_less h hab
      rw [ih (by omega)]
      rw [hgt]; exact maxL_mem (List.mem_map.2 ⟨b, List.mem_filter.2 ⟨List.mem_range.2 hb.1, hab⟩, rfl⟩)
    · rw [hgt]
      refine maxL_le fun x hx => ?_
      rw [List.mem_map] at hx
      obtain ⟨b, hb, rfl⟩ := hx
      rw [List.mem_filter, List.mem_range] at hb
      obtain ⟨c, hc1, hc2⟩ := cov_exists h n (b := b) (by omega) hb.2
      have hac : R a c = true := by have := hc1; unfold cov at this; rw [Bool.and_eq_true] at this; exact this.1
      have hl := cnt_less h hac
      have hge : hgt R n f b ≤ hgt R n f c := by
        simp only [bel, Bool.or_eq_true, beq_iff_eq] at hc2
        rcases hc2 with rfl | hcb
        · exact Nat.le_refl _
        · have hl2 := cnt_less h hcb
          have e1 := hgt_fuel h (f := f) (g := cntU R n c) (a := c) (by omega) (Nat.le_refl _)
          obtain ⟨m, hm⟩ : ∃ m, cntU R n c = m + 1 := ⟨cntU R n c - 1, by omega⟩
          have e2 := hgt_fuel h (f := f) (g := m) (a := b) (by omega) (by omega)
          rw [e1, e2, hm, hgt]
          have := maxL_mem (l := ((List.range n).filter (R c)).map fun b => 1 + hgt R n m b) (x := 1 + hgt R n m b) (List.mem_map.2 ⟨b, List.mem_filter.2 ⟨List.mem_range.2 hb.1, hcb⟩, rfl⟩)
          omega
      have h2 : 1 + hgtC R n f c ≤ hgtC R n (f + 1) a := by
        rw [hgtC]; exact maxL_mem (List.mem_map.2 ⟨c, List.mem_filter.2 ⟨List.mem_range.2 (h.rng _ _ hac), hc1⟩, rfl⟩)
      rw [ih (by omega)] at h2
      omega
end Go.Proofs.YtfhnigpjmljhbaaDoor.Or
/- The break of a table, as both programs find it. No program is spoken of here. -/
namespace Go.Proofs.YtfhnigpjmljhbaaDoor.Or

/-- The pairs of numbers below n of which the first one is smaller, in their order. -/
def pairsL (n : Nat) : List (Nat × Nat) := (List.range n).flatMap fun a => ((List.range n).filter fun b => decide (a < b)).map fun b => (a, b)
theorem mem_pairsL {n a b : Nat} : (a, b) ∈ pairsL n ↔ a < b ∧ b < n := by
  simp only [pairsL, List.mem_flatMap, List.mem_range, List.mem_map, List.mem_filter, decide_eq_true_eq, Prod.mk.injEq]
  constructor
  · rintro ⟨x, hx, y, ⟨hy, hxy⟩, rfl, rfl⟩; exact ⟨hxy, hy⟩
  · rintro ⟨h1, h2⟩; exact ⟨a, by omega, b, ⟨h2, h1⟩, rfl, rfl⟩
/-- The first step from what is wrong to what is not, if there is one. -/
def wrongF (R : Nat → Nat → Bool) (n : Nat) (wr : Nat → Bool) : Option (Nat × Nat) :=
  ((List.range n).flatMap fun a => (ups R n [a]).map fun b => (a, b)).find? fun p => wr p.1 && !wr p.2
/-- A break: its kind (1 a cycle, 2 the base, 3 no bound, 4 many, 5 wrong; 0 none), its elements. -/
def brkF (R : Nat → Nat → Bool) (n : Nat) (wr : Nat → Bool) : Nat × Nat × Nat :=
  match (List.range n).find? fun a => R a a with
  | some a => (1, a, 0)
  | none =>
    match (List.range n).find? fun a => !bel R 0 a with
    | some a => (2, a, 0)
    | none =>
      match (pairsL n).find? fun p => (joinO R n p.1 p.2).isNone with
      | some p => (if (ups R n [p.1, p.2]).isEmpty then 3 else 4, p.1, p.2)
      | none =>
        if wr 0 then (5, 0, 0)
        else match wrongF R n wr with
          | some p => (5, p.1, p.2)
          | none => (0, 0, 0)
/-- What a table without a break is. -/
structure Lat (R : Nat → Nat → Bool) (n : Nat) (wr : Nat → Bool) : Prop where
  irr : ∀ a, a < n → R a a = false
  base : ∀ a, a < n → bel R 0 a = true
  join : ∀ a b, a < b → b < n → (joinO R n a b).isSome = true
  zero : wr 0 = false
  wrong : wrongF R n wr = none
theorem lat_of {R : Nat → Nat → Bool} {n : Nat} {wr : Nat → Bool} (h : (brkF R n wr).1 = 0) : Lat R n wr := by
  unfold brkF at h
  split at h
  · simp at h
  · rename_i h1
    split at h
    · simp at h
    · rename_i h2
      split at h
      · simp only at h; split at h <;> exact absurd h (by decide)
      · rename_i h3
        split at h
        · exact absurd h (by decide)
        · rename_i h4
          split at h
          · simp at h
          · rename_i h5
            rw [List.find?_eq_none] at h1 h2 h3
            refine ⟨fun a ha => ?_, fun a ha => ?_, fun a b hab hb => ?_, by simpa using h4, h5⟩
            · have := h1 a (List.mem_range.2 ha); simpa using this
            · have := h2 a (List.mem_range.2 ha); simpa using this
            · have := h3 (a, b) (mem_pairsL.2 ⟨hab, hb⟩)
              cases hj : joinO R n a b with
              | some j => rfl
              | none => rw [hj] at this; simp at this
theorem Lat.acy {R : Nat → Nat → Bool} {n : Nat} {wr : Nat → Bool} (h : Lat R n wr) (ht : ∀ a b c, R a b = true → R b c = true → R a c = true) (hr : ∀ a b, R a b = true → a < n ∧ b < n) : Acy R n :=
  { trans := ht
    irr := fun a => by
      cases e : R a a with
      | false => rfl
      | true =>
        have h2 := h.irr a (hr _ _ e).1
        rw [e] at h2; cases h2
    rng := fun a b e => (hr a b e).2 }
/-- In a lattice each two elements have a join. -/
theorem Lat.joins {R : Nat → Nat → Bool} {n a b : Nat} {wr : Nat → Bool} (h : Lat R n wr) (hA : Acy R n) (ha : a < n) (hb : b < n) : ∃ j, joinO R n a b = some j ∧ j < n ∧ bel R a j = true ∧ bel R b j = true := by
  have key : ∃ j, joinO R n a b = some j := by
    rcases Nat.lt_trichotomy a b with c | c | c
    · exact Option.isSome_iff_exists.1 (h.join a b c hb)
    · subst c; exact ⟨a, join_self hA ha⟩
    · rw [join_swap]; exact Option.isSome_iff_exists.1 (h.join b a c ha)
  obtain ⟨j, hj⟩ := key
  have hm := mem_ups.1 (least_some hj).1
  exact ⟨j, hj, hm.1, hm.2 a (by simp), hm.2 b (by simp)⟩
end Go.Proofs.YtfhnigpjmljhbaaDoor.Or
/- The primes and the parts, as both programs find them. No program is spoken of here. -/
namespace Go.Proofs.YtfhnigpjmljhbaaDoor.Or

/-- Whether one is the join of two other ones. -/
def joinedBy (R : Nat → Nat → Bool) (n j a b : Nat) : Bool := joinO R n a b == some j && (j != a && j != b)
/-- The primes: by all two elements, and by the pairs of which the first one is smaller. -/
def primeR (R : Nat → Nat → Bool) (n j : Nat) : Bool := decide (0 < j) && decide (j < n) && !((List.range n).any fun a => (List.range n).any fun b => joinedBy R n j a b)
def primeO (R : Nat → Nat → Bool) (n j : Nat) : Bool := decide (0 < j) && decide (j < n) && !((pairsL n).any fun p => joinedBy R n j p.1 p.2)
theorem joinedBy_swap (R : Nat → Nat → Bool) (n j a b : Nat) : joinedBy R n j a b = joinedBy R n j b a := by
  unfold joinedBy; rw [join_swap R n a b, Bool.and_comm (j != a)]
theorem joinedBy_self {R : Nat → Nat → Bool} {n j a : Nat} (h : Acy R n) (ha : a < n) : joinedBy R n j a a = false := by
  unfold joinedBy
  rw [join_self h ha]
  by_cases e : j = a
  · subst e; simp
  · have : (some a == some j) = false := by simp; omega
    rw [this]; rfl
theorem prime_eq {R : Nat → Nat → Bool} {n : Nat} (h : Acy R n) (j : Nat) : primeR R n j = primeO R n j := by
  unfold primeR primeO
  congr 2
  rw [Bool.eq_iff_iff, List.any_eq_true, List.any_eq_true]
  constructor
  · rintro ⟨a, ha, h2⟩
    rw [List.any_eq_true] at h2
    obtain ⟨b, hb, h2⟩ := h2
    rw [List.mem_range] at ha hb
    rcases Nat.lt_trichotomy a b with c | c | c
    · exact ⟨(a, b), mem_pairsL.2 ⟨c, hb⟩, h2⟩
    · subst c; rw [joinedBy_self h ha] at h2; cases h2
    · exact ⟨(b, a), mem_pairsL.2 ⟨c, ha⟩, by rw [joinedBy_swap] at h2; exact h2⟩
  · rintro ⟨⟨a, b⟩, hp, h2⟩
    have hm := mem_pairsL.1 hp
    exact ⟨a, List.mem_range.2 (by omega), by rw [List.any_eq_true]; exact ⟨b, List.mem_range.2 hm.2, h2⟩⟩

/-- Whether a prime is one of the parts of an element: by what is above or the same, and by what is above. -/
theorem part_eq {R : Nat → Nat → Bool} {n : Nat} (h : Acy R n) (l : List Nat) (p a : Nat) :
    (l.all fun q => q == p || (!bel R q a || !bel R p q)) = (l.all fun q => !(bel R q a && R p q)) := by
  rw [Bool.eq_iff_iff, List.all_eq_true, List.all_eq_true]
  refine forall_congr' fun q => forall_congr' fun _ => ?_
  by_cases e : q = p
  · subst e; simp [h.irr]
  · have e1 : (q == p) = false := by rw [beq_eq_false_iff_ne]; exact e
    have e2 : bel R p q = R p q := by
      unfold bel
      rw [show (p == q) = false by rw [beq_eq_false_iff_ne]; exact fun h => e h.symm, Bool.false_or]
    rw [e1, e2]
    cases bel R q a <;> cases R p q <;> simp

/-- What is right above: what is beyond, but for what is beyond that. -/
theorem cov_eq (R : Nat → Nat → Bool) (n a b : Nat) (hr : ∀ x y, R x y = true → y < n) : cov R n a b = (R a b && !((List.range n).filter (R a)).any fun c => R c b) := by
  unfold cov
  congr 2
  rw [Bool.eq_iff_iff, List.any_eq_true, List.any_eq_true]
  constructor
  · rintro ⟨c, hc, h⟩
    rw [Bool.and_eq_true] at h
    exact ⟨c, List.mem_filter.2 ⟨hc, h.1⟩, h.2⟩
  · rintro ⟨c, hc, h⟩
    rw [List.mem_filter] at hc
    exact ⟨c, hc.1, by rw [Bool.and_eq_true]; exact ⟨hc.2, h⟩⟩
end Go.Proofs.YtfhnigpjmljhbaaDoor.Or
/- What the operators make of groups. No program is spoken of here. -/
namespace Go.Proofs.YtfhnigpjmljhbaaDoor.Or

theorem grp_congr {p q : Nat → Bool} {n : Nat} (h : ∀ i, i < n → p i = q i) : grp p n = grp q n :=
  grp_of fun i => by
    rw [grp_bit]
    by_cases c : i < n
    · rw [h i c]
    · rw [decide_eq_false c]; rfl
theorem grp_and (p q : Nat → Bool) (n : Nat) : grp p n &&& grp q n = grp (fun i => p i && q i) n :=
  grp_of fun i => by rw [Nat.testBit_and, grp_bit, grp_bit]; cases decide (i < n) <;> simp
theorem grp_or (p q : Nat → Bool) (n : Nat) : grp p n ||| grp q n = grp (fun i => p i || q i) n :=
  grp_of fun i => by rw [Nat.testBit_or, grp_bit, grp_bit]; cases decide (i < n) <;> simp
theorem grp_lt16 (p : Nat → Bool) {n : Nat} (hn : n ≤ 16) : grp p n < 65536 := by
  have h1 := grp_lt p n
  have h2 : 2 ^ n ≤ 2 ^ 16 := Nat.pow_le_pow_right (by decide) hn
  omega
theorem grp_andNot (p q : Nat → Bool) {n : Nat} (hn : n ≤ 16) : grp p n &&& (65535 - grp q n) = grp (fun i => p i && !q i) n :=
  grp_of fun i => by
    have hq := grp_lt16 q hn
    have e : 65535 - grp q n = 2 ^ 16 - (grp q n + 1) := by omega
    rw [Nat.testBit_and, e, Nat.testBit_two_pow_sub_succ (by omega), grp_bit, grp_bit]
    by_cases c : i < n
    · rw [decide_eq_true c, decide_eq_true (show i < 16 by omega)]; simp
    · rw [decide_eq_false c]; simp
theorem grp_one {n a : Nat} (h : a < n) : 2 ^ a = grp (fun i => i == a) n :=
  grp_of fun i => by
    rw [Nat.testBit_two_pow]
    by_cases c : i = a
    · subst c; simp [h]
    · have e : (i == a) = false := by rw [beq_eq_false_iff_ne]; exact c
      rw [e, Bool.and_false]; exact decide_eq_false fun h => c h.symm
theorem grp_full (n : Nat) : 2 ^ n - 1 = grp (fun _ => true) n :=
  grp_of fun i => by rw [Nat.testBit_two_pow_sub_one, Bool.and_true]
theorem grp_none (n : Nat) : 0 = grp (fun _ => false) n :=
  grp_of fun i => by simp
theorem grp_eq_zero {p : Nat → Bool} {n : Nat} : grp p n = 0 ↔ ∀ i, i < n → p i = false := by
  constructor
  · intro h i hi
    have := grp_bit p n i
    rw [h, decide_eq_true hi] at this
    simpa using this.symm
  · intro h
    rw [grp_none n]; exact grp_congr h
theorem grp_has {p : Nat → Bool} {n a : Nat} (ha : a < n) : grp p n &&& 2 ^ a = if p a then 2 ^ a else 0 := by
  rw [grp_one ha, grp_and]
  cases e : p a with
  | true => rw [if_pos rfl]; refine grp_congr fun i _ => ?_
            by_cases c : i = a
            · subst c; simp [e]
            · have : (i == a) = false := by rw [beq_eq_false_iff_ne]; exact c
              rw [this]; simp
  | false => rw [if_neg (by decide), grp_none n]; refine grp_congr fun i _ => ?_
             by_cases c : i = a
             · subst c; simp [e]
             · have : (i == a) = false := by rw [beq_eq_false_iff_ne]; exact c
               rw [this]; simp
theorem elems_grp (p : Nat → Bool) {n m : Nat} (h : n ≤ m) : elems (grp p n) m = (List.range n).filter p := by
  unfold elems
  obtain ⟨k, rfl⟩ : ∃ k, m = n + k := ⟨m - n, by omega⟩
  rw [List.range_add, List.filter_append]
  have e1 : (List.range n).filter (fun i => (grp p n).testBit i) = (List.range n).filter p :=
    List.filter_congr fun i hi => by rw [grp_bit, decide_eq_true (List.mem_range.1 hi), Bool.true_and]
  have e2 : ((List.range k).map (n + ·)).filter (fun i => (grp p n).testBit i) = [] := by
    rw [List.filter_eq_nil_iff]
    intro i hi
    simp only [List.mem_map, List.mem_range] at hi
    obtain ⟨b, _, rfl⟩ := hi
    rw [grp_bit, decide_eq_false (by omega)]; simp
  rw [e1, e2, List.append_nil]
end Go.Proofs.YtfhnigpjmljhbaaDoor.Or
/- The rows of a table's steps as groups: where they begin, what a turn makes of them; what is above all of some; the join as groups find it. No program is spoken of here. -/
namespace Go.Proofs.YtfhnigpjmljhbaaDoor.Or

/-- Within a turn the row of the turn's own number stays. -/
theorem war_turn (E : Nat → Nat → Bool) (k b : Nat) : war E (k + 1) k b = war E k k b := by
  simp only [war]; cases war E k k b <;> simp
theorem war_row_yes {E : Nat → Nat → Bool} {k a n : Nat} (h : war E k a k = true) : grp (war E k a) n ||| grp (war E k k) n = grp (war E (k + 1) a) n := by
  rw [grp_or]; exact grp_congr fun i _ => by simp only [war, h, Bool.true_and]
theorem war_row_no {E : Nat → Nat → Bool} {k a n : Nat} (h : war E k a k = false) : grp (war E k a) n = grp (war E (k + 1) a) n :=
  grp_congr fun i _ => by simp only [war, h, Bool.false_and, Bool.or_false]
/-- A row to which a number of a list is put. -/
theorem row_put (l : List Nat) (b n : Nat) (hb : b < n) : grp (fun i => l.contains i) n ||| 2 ^ b = grp (fun i => (l ++ [b]).contains i) n := by
  rw [grp_one hb, grp_or]
  exact grp_congr fun i _ => by
    rw [Bool.eq_iff_iff]; simp
/-- What is above one, as a group. -/
theorem row_bel (R : Nat → Nat → Bool) {n a : Nat} (ha : a < n) : grp (R a) n ||| 2 ^ a = grp (bel R a) n := by
  rw [grp_one ha, grp_or]
  exact grp_congr fun i _ => by
    unfold bel
    rw [Bool.or_comm, show (i == a) = (a == i) by rw [Bool.eq_iff_iff]; simp; exact ⟨fun h => h.symm, fun h => h.symm⟩]
theorem row_all (R : Nat → Nat → Bool) (n : Nat) (l : List Nat) (a : Nat) : grp (fun c => l.all fun x => bel R x c) n &&& grp (bel R a) n = grp (fun c => (l ++ [a]).all fun x => bel R x c) n := by
  rw [grp_and]
  exact grp_congr fun i _ => by simp
theorem elems_ups (R : Nat → Nat → Bool) {n m : Nat} (l : List Nat) (h : n ≤ m) : elems (grp (fun c => l.all fun x => bel R x c) n) m = ups R n l := by
  rw [elems_grp _ h]; rfl
/-- Whether one is below all of some, as groups find it. -/
theorem below_all (R : Nat → Nat → Bool) {n : Nat} (hn : n ≤ 16) (l : List Nat) (j : Nat) :
    (grp (fun c => l.all fun x => bel R x c) n &&& (65535 - grp (bel R j) n) == 0) = (ups R n l).all fun c => bel R j c := by
  rw [grp_andNot _ _ hn, Bool.eq_iff_iff, beq_iff_eq, grp_eq_zero, List.all_eq_true]
  constructor
  · intro h c hc
    unfold ups at hc
    rw [List.mem_filter, List.mem_range] at hc
    have := h c hc.1
    rw [hc.2, Bool.true_and, Bool.not_eq_false'] at this
    exact this
  · intro h i hi
    cases c : l.all fun x => bel R x i with
    | false => rfl
    | true =>
      have := h i (by unfold ups; rw [List.mem_filter, List.mem_range]; exact ⟨hi, c⟩)
      rw [this]; rfl
/-- No bound at all, as groups find it. -/
theorem no_bound (R : Nat → Nat → Bool) (n : Nat) (l : List Nat) : (grp (fun c => l.all fun x => bel R x c) n == 0) = (ups R n l).isEmpty := by
  rw [Bool.eq_iff_iff, beq_iff_eq, grp_eq_zero, List.isEmpty_iff]
  unfold ups
  rw [List.filter_eq_nil_iff]
  constructor
  · intro h i hi; rw [h i (List.mem_range.1 hi)]; simp
  · intro h i hi
    have := h i (List.mem_range.2 hi)
    simpa using this
/-- Right above, as groups find it: a fold that takes away what is beyond each. -/
theorem row_less (R : Nat → Nat → Bool) {n : Nat} (hn : n ≤ 16) (a : Nat) (l : List Nat) (b : Nat) :
    grp (fun i => R a i && !l.any fun c => R c i) n &&& (65535 - grp (R b) n) = grp (fun i => R a i && !(l ++ [b]).any fun c => R c i) n := by
  rw [grp_andNot _ _ hn]
  exact grp_congr fun i _ => by
    simp only [List.any_append, List.any_cons, List.any_nil, Bool.or_false]
    cases R a i <;> cases (l.any fun c => R c i) <;> cases R b i <;> rfl
end Go.Proofs.YtfhnigpjmljhbaaDoor.Or
/- The lowest bit of a number of 16 bits, as TrailingZeros16 finds it. No program is spoken of here. -/
namespace Go.Proofs.YtfhnigpjmljhbaaDoor.Or

theorem low_t {t q : Nat} (h : 2 ^ t * (2 * q + 1) < 65536) : t < 16 := by
  rcases Nat.lt_or_ge t 16 with h1 | h1
  · exact h1
  · have h2 : 2 ^ 16 ≤ 2 ^ t := Nat.pow_le_pow_right (by decide) h1
    have h3 : 2 ^ t * 1 ≤ 2 ^ t * (2 * q + 1) := Nat.mul_le_mul_left _ (by omega)
    omega
/-- A number and its negative have the lowest bit in common. -/
theorem low_neg {t q : Nat} (h : 2 ^ t * (2 * q + 1) < 65536) : 2 ^ t * (2 * q + 1) &&& (65536 - 2 ^ t * (2 * q + 1)) = 2 ^ t := by
  have ht := low_t h
  obtain ⟨m, hm⟩ : ∃ m, 15 = t + m := ⟨15 - t, by omega⟩
  have e16 : 65536 = 2 ^ t * (2 * 2 ^ m) := by
    rw [show (65536 : Nat) = 2 * 2 ^ 15 by decide, hm, Nat.pow_add]
    rw [Nat.mul_left_comm]
  have hp : 0 < 2 ^ t := Nat.pow_pos (by decide)
  have hq : q < 2 ^ m := by
    rw [e16] at h
    have := Nat.lt_of_mul_lt_mul_left h
    omega
  have e : 65536 - 2 ^ t * (2 * q + 1) = 2 ^ t * (2 * (2 ^ m - (q + 1)) + 1) := by
    rw [e16, ← Nat.mul_sub]; congr 1; omega
  rw [e]
  refine Nat.eq_of_testBit_eq fun i => ?_
  rw [Nat.testBit_and, low_bit, low_bit, Nat.testBit_two_pow, Nat.testBit_two_pow_sub_succ hq]
  by_cases c : i < t
  · rw [show decide (t ≤ i) = false from decide_eq_false (by omega)]
    simp; omega
  · rw [show decide (t ≤ i) = true from decide_eq_true (by omega)]
    by_cases e : i = t
    · subst e; simp
    · rw [decide_eq_false e, decide_eq_false (show ¬ t = i by omega)]
      cases q.testBit (i - (t + 1)) <;> simp
/-- What deBruijn's number makes of a power of two. -/
theorem brujn_index : ∀ t, t < 16 → (2 ^ t * 125613361) % 4294967296 / 134217728 < 32 := by decide
end Go.Proofs.YtfhnigpjmljhbaaDoor.Or
/- What the break of a table tells of its pairs. No program is spoken of here. -/
namespace Go.Proofs.YtfhnigpjmljhbaaDoor.Or

def lexP (p q : Nat × Nat) : Prop := p.1 < q.1 ∨ p.1 = q.1 ∧ p.2 < q.2
theorem pairsL_sorted (n : Nat) : (pairsL n).Pairwise lexP := by
  unfold pairsL
  rw [List.pairwise_flatMap]
  refine ⟨fun a _ => ?_, ?_⟩
  · rw [List.pairwise_map]
    exact (List.pairwise_lt_range.filter _).imp (fun h => .inr ⟨rfl, h⟩)
  · refine List.pairwise_lt_range.imp ?_
    intro a c h x hx y hy
    simp only [List.mem_map] at hx hy
    obtain ⟨_, _, rfl⟩ := hx; obtain ⟨_, _, rfl⟩ := hy
    exact .inl h
/-- A break of a pair: the first one without a join. -/
theorem brk_what {R : Nat → Nat → Bool} {n : Nat} {wr : Nat → Bool} {k a b : Nat} (h : brkF R n wr = (k, a, b)) (hk : k = 3 ∨ k = 4) :
    a < b ∧ b < n ∧ (joinO R n a b).isSome = false ∧ (k == 3) = (ups R n [a, b]).isEmpty ∧ ∀ x y, x < y → y < n → (x < a ∨ x = a ∧ y < b) → (joinO R n x y).isSome = true := by
  unfold brkF at h
  split at h
  · simp only [Prod.mk.injEq] at h; omega
  · split at h
    · simp only [Prod.mk.injEq] at h; omega
    · split at h
      · rename_i p hp
        rw [List.find?_eq_some_iff_append] at hp
        obtain ⟨hp1, as, bs, hl, has⟩ := hp
        simp only [Prod.mk.injEq] at h
        obtain ⟨h1, h2, h3⟩ := h
        obtain ⟨pa, pb⟩ := p
        simp only at h1 h2 h3 hp1
        subst h2; subst h3
        have hm : (pa, pb) ∈ pairsL n := by rw [hl]; simp
        have hm2 := mem_pairsL.1 hm
        refine ⟨hm2.1, hm2.2, by simpa using hp1, ?_, ?_⟩
        · rw [← h1]; cases (ups R n [pa, pb]).isEmpty <;> rfl
        · intro x y hxy hy hlt
          have hxm : (x, y) ∈ as ++ (pa, pb) :: bs := by rw [← hl]; exact mem_pairsL.2 ⟨hxy, hy⟩
          have hs := pairsL_sorted n
          rw [hl, List.pairwise_append] at hs
          rcases List.mem_append.1 hxm with hx | hx
          · have := has _ hx
            cases hj : joinO R n x y with
            | some j => rfl
            | none => rw [hj] at this; simp at this
          · rcases List.mem_cons.1 hx with hx | hx
            · simp only [Prod.mk.injEq] at hx; omega
            · have := (List.pairwise_cons.1 hs.2.1).1 _ hx
              simp only [lexP] at this; omega
      · split at h
        · simp only [Prod.mk.injEq] at h; omega
        · split at h
          · simp only [Prod.mk.injEq] at h; omega
          · simp only [Prod.mk.injEq] at h; omega
theorem brk_none {R : Nat → Nat → Bool} {n : Nat} {wr : Nat → Bool} (h : (brkF R n wr).1 = 0) : brkF R n wr = (0, 0, 0) := by
  unfold brkF at h ⊢
  split at h
  · simp at h
  · split at h
    · simp at h
    · split at h
      · simp only at h; split at h <;> exact absurd h (by decide)
      · split at h
        · exact absurd h (by decide)
        · split at h
          · simp at h
          · simp_all
/-- Whether some number of a list is below all of it. -/
def someF (R : Nat → Nat → Bool) (l : List Nat) (i : Nat) : Bool := (l.take i).any fun x => l.all fun y => bel R x y
theorem some_all (R : Nat → Nat → Bool) (l : List Nat) : someF R l l.length = (leastF R l).isSome := by
  unfold someF leastF
  rw [List.take_length, List.isSome_find?]
def allF (R : Nat → Nat → Bool) (l : List Nat) (x k : Nat) : Bool := (l.take k).all fun y => bel R x y
def bothF (R : Nat → Nat → Bool) (a b c : Nat) : List Nat := (List.range c).filter fun x => bel R a x && bel R b x
theorem both_ups (R : Nat → Nat → Bool) (n a b : Nat) : bothF R a b n = ups R n [a, b] := by
  unfold bothF ups; congr 1; funext c; simp
theorem both_snoc (R : Nat → Nat → Bool) (a b c : Nat) : bothF R a b (c + 1) = bothF R a b c ++ (if bel R a c && bel R b c then [c] else []) := by
  unfold bothF; rw [List.range_succ, List.filter_append]; simp [List.filter_cons]
theorem both_lt {R : Nat → Nat → Bool} {a b c x : Nat} (h : x ∈ bothF R a b c) : x < c := by
  unfold bothF at h; rw [List.mem_filter, List.mem_range] at h; exact h.1
theorem both_len (R : Nat → Nat → Bool) (a b c : Nat) : (bothF R a b c).length ≤ c := by
  unfold bothF; have := List.length_filter_le (fun x => bel R a x && bel R b x) (List.range c); simpa using this
theorem all_snoc (R : Nat → Nat → Bool) (l : List Nat) (x k : Nat) (hk : k < l.length) : allF R l x (k + 1) = (allF R l x k && bel R x (l.getD k 0)) := by
  unfold allF; rw [List.take_add_one, List.all_append]; simp [List.getD_eq_getElem?_getD, hk]
theorem some_snoc (R : Nat → Nat → Bool) (l : List Nat) (i : Nat) (hi : i < l.length) : someF R l (i + 1) = (someF R l i || allF R l (l.getD i 0) l.length) := by
  unfold someF allF; rw [List.take_add_one, List.any_append, List.take_length]; simp [List.getD_eq_getElem?_getD, hi]
end Go.Proofs.YtfhnigpjmljhbaaDoor.Or
