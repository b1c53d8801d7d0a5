/- A table with its elements in another order: the same breaks and joins. No program is spoken of here but by its contracts. -/
import Derived.Test.YtmooikdodbjgpaaDoorOrGa
set_option linter.unusedVariables false
set_option linter.unusedSimpArgs false
namespace Go.Proofs.YtmooikdodbjgpaaDoor.Or

/-- What it is to have no break, in the words of the order. -/
structure LatW (R : Nat → Nat → Bool) (n : Nat) (wr : Nat → Bool) : Prop where
  irr : ∀ a, a < n → R a a = false
  base : ∀ a, a < n → bel R 0 a = true
  join : ∀ a b, a < n → b < n → ∃ j, j < n ∧ bel R a j = true ∧ bel R b j = true ∧ ∀ c, c < n → bel R a c = true → bel R b c = true → bel R j c = true
  zero : wr 0 = false
  wrong : ∀ a b, a < n → b < n → bel R a b = true → wr a = true → wr b = true
theorem Lat.words {R : Nat → Nat → Bool} {n : Nat} {wr : Nat → Bool} (h : Lat R n wr) (hA : Acy R n) : LatW R n wr :=
  ⟨h.irr, h.base, fun a b ha hb => ⟨_, jn_spec h hA ha hb⟩, h.zero, fun a b ha hb h1 h2 => wr_up h ha hb h1 h2⟩
theorem LatW.lat {R : Nat → Nat → Bool} {n : Nat} {wr : Nat → Bool} (h : LatW R n wr) : Lat R n wr := by
  refine ⟨h.irr, h.base, fun a b hab hb => ?_, h.zero, ?_⟩
  · obtain ⟨j, hj, h1, h2, h3⟩ := h.join a b (by omega) hb
    unfold joinO leastF
    rw [List.find?_isSome]
    refine ⟨j, mem_ups.2 ⟨hj, fun x hx => ?_⟩, ?_⟩
    · simp only [List.mem_cons, List.not_mem_nil, or_false] at hx
      rcases hx with rfl | rfl
      · exact h1
      · exact h2
    · rw [List.all_eq_true]
      intro c hc
      have hm := mem_ups.1 hc
      exact h3 c hm.1 (hm.2 a (by simp)) (hm.2 b (by simp))
  · show (wrongL R n).find? (fun p => wr p.1 && !wr p.2) = none
    rw [List.find?_eq_none]
    rintro ⟨a, b⟩ hm
    obtain ⟨ha, hb, hab⟩ := mem_wrongL.1 hm
    cases e : wr a with
    | false => simp [e]
    | true => simp [e, h.wrong a b ha hb hab e]
theorem brk_lat {R : Nat → Nat → Bool} {n : Nat} {wr : Nat → Bool} (h : Lat R n wr) : (brkF R n wr).1 = 0 := by
  have h1 : ((List.range n).find? fun a => R a a) = none := by
    rw [List.find?_eq_none]; intro a ha; rw [h.irr a (List.mem_range.1 ha)]; simp
  have h2 : ((List.range n).find? fun a => !bel R 0 a) = none := by
    rw [List.find?_eq_none]; intro a ha; rw [h.base a (List.mem_range.1 ha)]; simp
  have h3 : ((pairsL n).find? fun p => (joinO R n p.1 p.2).isNone) = none := by
    rw [List.find?_eq_none]
    rintro ⟨a, b⟩ hp
    obtain ⟨hab, hb⟩ := mem_pairsL.1 hp
    have := h.join a b hab hb
    cases hj : joinO R n a b with
    | none => rw [hj] at this; cases this
    | some j => simp [hj]
  unfold brkF
  rw [h1, h2, h3]
  simp only [h.zero, h.wrong]
  rfl
theorem latF_words {t : Tab} (hf : frmF t = true) : latF t = true ↔ LatW t.R t.n t.wr := by
  constructor
  · intro h
    have hL := latF_lat h
    exact hL.words (frm_acy hf hL)
  · intro h
    unfold latF
    rw [brk_lat h.lat]; rfl

/-- Two lists of places, each the other one's way back, by which 0 stays. -/
structure Turn (n : Nat) (at' tn : Nat → Nat) : Prop where
  a1 : ∀ i, i < n → at' i < n
  t1 : ∀ i, i < n → tn i < n
  ta : ∀ i, i < n → tn (at' i) = i
  at1 : ∀ i, i < n → at' (tn i) = i
  z : tn 0 = 0
theorem Turn.inj {n : Nat} {at' tn : Nat → Nat} (h : Turn n at' tn) {i j : Nat} (hi : i < n) (hj : j < n) (e : tn i = tn j) : i = j := by
  rw [← h.at1 i hi, ← h.at1 j hj, e]
/-- The steps of the one are the steps of the other one, turned. -/
def Turned (n : Nat) (tn : Nat → Nat) (R S : Nat → Nat → Bool) : Prop := ∀ a b, a < n → b < n → S (tn a) (tn b) = R a b
theorem turned_bel {n : Nat} {at' tn : Nat → Nat} {R S : Nat → Nat → Bool} (h : Turn n at' tn) (hR : Turned n tn R S) {a b : Nat} (ha : a < n) (hb : b < n) : bel S (tn a) (tn b) = bel R a b := by
  unfold bel
  rw [hR a b ha hb]
  congr 1
  rw [Bool.eq_iff_iff, beq_iff_eq, beq_iff_eq]
  exact ⟨h.inj ha hb, fun e => by rw [e]⟩
theorem Turn.back {n : Nat} {at' tn : Nat → Nat} (h : Turn n at' tn) (hn : 0 < n) : Turn n tn at' :=
  ⟨h.t1, h.a1, h.at1, h.ta, by have := h.at1 0 hn; rw [h.z] at this; exact this⟩
theorem turned_back {n : Nat} {at' tn : Nat → Nat} {R S : Nat → Nat → Bool} (h : Turn n at' tn) (hR : Turned n tn R S) : Turned n at' S R := fun a b ha hb => by
  have := hR (at' a) (at' b) (h.a1 a ha) (h.a1 b hb)
  rw [h.ta a ha, h.ta b hb] at this
  exact this.symm
theorem turned_words {n : Nat} {at' tn : Nat → Nat} {R S : Nat → Nat → Bool} {wr ws : Nat → Bool} (h : Turn n at' tn) (hR : Turned n tn R S) (hw : ∀ a, a < n → ws (tn a) = wr a) (hn : 0 < n) (hL : LatW R n wr) : LatW S n ws := by
  have hz : at' 0 = 0 := (h.back hn).z
  have key : ∀ a, a < n → ∃ x, x < n ∧ a = tn x := fun a ha => ⟨at' a, h.a1 a ha, (h.ta a ha).symm⟩
  refine ⟨fun a ha => ?_, fun a ha => ?_, fun a b ha hb => ?_, ?_, fun a b ha hb => ?_⟩
  · obtain ⟨x, hx, rfl⟩ := key a ha
    rw [hR x x hx hx]; exact hL.irr x hx
  · obtain ⟨x, hx, rfl⟩ := key a ha
    have := turned_bel h hR hn hx
    rw [h.z] at this
    rw [this]; exact hL.base x hx
  · obtain ⟨x, hx, rfl⟩ := key a ha
    obtain ⟨y, hy, rfl⟩ := key b hb
    obtain ⟨j, hj, h1, h2, h3⟩ := hL.join x y hx hy
    refine ⟨tn j, h.t1 j hj, by rw [turned_bel h hR hx hj]; exact h1, by rw [turned_bel h hR hy hj]; exact h2, fun c hc hac hbc => ?_⟩
    obtain ⟨z, hz2, rfl⟩ := key c hc
    rw [turned_bel h hR hx hz2] at hac
    rw [turned_bel h hR hy hz2] at hbc
    rw [turned_bel h hR hj hz2]
    exact h3 z hz2 hac hbc
  · have := hw 0 hn
    rw [h.z] at this
    rw [this]; exact hL.zero
  · obtain ⟨x, hx, rfl⟩ := key a ha
    obtain ⟨y, hy, rfl⟩ := key b hb
    rw [turned_bel h hR hx hy, hw x hx, hw y hy]
    exact hL.wrong x y hx hy
/-- The join, turned. -/
theorem turned_jn {n : Nat} {at' tn : Nat → Nat} {R S : Nat → Nat → Bool} {wr ws : Nat → Bool} (h : Turn n at' tn) (hR : Turned n tn R S) (hL : Lat R n wr) (hA : Acy R n) (hL2 : Lat S n ws) (hA2 : Acy S n) {a b : Nat} (ha : a < n) (hb : b < n) : jn S n (tn a) (tn b) = tn (jn R n a b) := by
  obtain ⟨s1, s2, s3, s4⟩ := jn_spec hL hA ha hb
  refine jn_is hL2 hA2 (h.t1 a ha) (h.t1 b hb) (h.t1 _ s1) (by rw [turned_bel h hR ha s1]; exact s2) (by rw [turned_bel h hR hb s1]; exact s3) fun c hc hac hbc => ?_
  have e : c = tn (at' c) := (h.ta c hc).symm
  rw [e] at hac hbc ⊢
  rw [turned_bel h hR ha (h.a1 c hc)] at hac
  rw [turned_bel h hR hb (h.a1 c hc)] at hbc
  rw [turned_bel h hR s1 (h.a1 c hc)]
  exact s4 _ (h.a1 c hc) hac hbc
/-- Ways, turned. -/
theorem turned_path {n : Nat} {at' tn : Nat → Nat} {E G : Nat → Nat → Bool} (h : Turn n at' tn) (hE : ∀ a b, E a b = true → a < n ∧ b < n) (hG : ∀ a b, a < n → b < n → G (tn a) (tn b) = E a b) {a b : Nat} (p : Pth E a b) : Pth G (tn a) (tn b) := by
  induction p with
  | one e => exact .one (by have := hE _ _ e; rw [hG _ _ this.1 this.2]; exact e)
  | more e _ ih => exact .more (by have := hE _ _ e; rw [hG _ _ this.1 this.2]; exact e) ih
end Go.Proofs.YtmooikdodbjgpaaDoor.Or
