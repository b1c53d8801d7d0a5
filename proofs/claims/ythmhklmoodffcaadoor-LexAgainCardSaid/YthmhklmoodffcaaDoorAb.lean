/- Scanning a bare text, and one with a blank less (no walk). -/
import Derived.Test.YthmhklmoodffcaaDoorAa
set_option linter.unusedVariables false
set_option linter.unusedSimpArgs false
namespace Go.Proofs.YthmhklmoodffcaaDoor
open Go.RowKit

/-- A token but for its place. -/
def kt (y : Lx) : Nat × List UInt8 := (y.1, y.2.1)
theorem getD_mid {u v w : List UInt8} {j : Nat} (h1 : u.length ≤ j) (h2 : j < u.length + v.length) : (u ++ (v ++ w)).getD j 0 = v.getD (j - u.length) 0 := by
  rw [List.getD_eq_getElem?_getD, List.getD_eq_getElem?_getD, List.getElem?_append_right h1, List.getElem?_append_left (by omega)]
theorem getD_in {v : List UInt8} {j : Nat} (h : j < v.length) : v.getD j 0 ∈ v := by
  rw [List.getD_eq_getElem?_getD, List.getElem?_eq_getElem h]; exact List.getElem_mem _
theorem gapTo (u s b v : List UInt8) (hs : ∀ c ∈ s, isGap c = true) (hb : b ≠ []) (hsol : ∀ c ∈ b, isGap c = false) : pst isGap (u ++ (s ++ (b ++ v))) u.length = u.length + s.length := by
  have hbl : 0 < b.length := List.length_pos_iff.2 hb
  refine pst_unique isGap _ _ _ (by omega) (fun j j1 j2 => ?_) (by simp; omega) ?_
  · rw [getD_mid j1 j2]; exact hs _ (getD_in (by omega))
  · rw [← List.append_assoc, show u.length + s.length = (u ++ s).length by simp, getD_mid (Nat.le_refl _) (by omega), Nat.sub_self]
    exact hsol _ (getD_in hbl)
theorem sepP_gap (q : Option (List UInt8)) (b : List UInt8) : ∀ c ∈ sepP q b, isGap c = true := by
  intro c hc
  cases q with
  | none => simp [sepP] at hc
  | some a =>
    rw [sepP] at hc
    split at hc
    · simp at hc
    · simp at hc; subst hc; decide
theorem sepP_len (q : Option (List UInt8)) (b : List UInt8) : (sepP q b).length ≤ 1 := by
  cases q with
  | none => simp [sepP]
  | some a => rw [sepP]; split <;> simp
theorem bare_cons (u : List UInt8) (q : Option (List UInt8)) (y : Lx) (ys : List Lx) : u ++ bare q (y :: ys) = u ++ (sepP q y.2.1 ++ (y.2.1 ++ bare (some y.2.1) ys)) := by
  rw [bare]; simp only [List.append_assoc]
theorem bare_toks : ∀ (ys : List Lx) (q : Option (List UInt8)) (u : List UInt8), (∀ z ∈ ys, Good z) → ∃ zs, Toks (u ++ bare q ys) (pst isGap (u ++ bare q ys) u.length) zs ∧ zs.map kt = ys.map kt
  | [], q, u, _ => ⟨[], by
      show (u ++ bare q []).length ≤ _
      rw [bare, List.append_nil, pst_end _ _ _ (Nat.le_refl _)]; exact Nat.le_refl _, rfl⟩
  | y :: ys, q, u, hg => by
    have hy := hg y (List.mem_cons_self ..)
    obtain ⟨zs, h1, h2⟩ := bare_toks ys (some y.2.1) (u ++ sepP q y.2.1 ++ y.2.1) (fun z hz => hg z (List.mem_cons_of_mem _ hz))
    have hpos : 0 < y.2.1.length := List.length_pos_iff.2 hy.ne
    have e : u ++ sepP q y.2.1 ++ y.2.1 ++ bare (some y.2.1) ys = u ++ (sepP q y.2.1 ++ (y.2.1 ++ bare (some y.2.1) ys)) := by simp only [List.append_assoc]
    rw [bare_cons, gapTo u _ _ _ (sepP_gap q y.2.1) hy.ne hy.solid]
    rw [e] at h1
    refine ⟨(y.1, y.2.1, ((u.length + (sepP q y.2.1).length : Nat) : Int)) :: zs, ⟨by simp; omega, rfl, ?_, ?_⟩, by simp [h2, kt]⟩
    · rw [← List.drop_drop, List.drop_left, List.drop_left]
      exact next_tok hy ys (fun z hz => hg z (List.mem_cons_of_mem _ hz))
    · rw [show (u ++ sepP q y.2.1 ++ y.2.1).length = u.length + (sepP q y.2.1).length + y.2.1.length by simp only [List.length_append]] at h1
      exact h1

theorem bare_len (p : List UInt8) : ∀ (ls : List Lx) (e : Nat) (x : List UInt8) (kx : Nat), e ≤ p.length → x.length ≤ e → tokR (p.drop (e - x.length)) = (some kx, x) → Toks p (pst isGap p e) ls → (bare (some x) ls).length ≤ p.length - e
  | [], e, x, kx, _, _, _, _ => by rw [bare]; simp
  | y :: ls, e, x, kx, he, hx, ht, ⟨h1, h2, h3, h4⟩ => by
    have hge := pst_ge isGap p e
    have hpre := (tokR_prefix _ y.1 (by rw [h3])).1
    rw [h3] at hpre
    have hpl := hpre.length_le
    simp only [List.length_drop] at hpl
    have ih := bare_len p ls (pst isGap p e + y.2.1.length) y.2.1 y.1 (by omega) (by omega) (by rw [Nat.add_sub_cancel]; exact h3) h4
    have hsl := sepP_len (some x) y.2.1
    have hs0 : pst isGap p e = e → (sepP (some x) y.2.1).length = 0 := fun h => by
      have hxp := (tokR_prefix _ kx (by rw [ht])).1
      rw [ht] at hxp
      obtain ⟨z, hz⟩ := hxp
      simp only at hz
      have hd : p.drop e = z := by
        have := congrArg (List.drop x.length) hz
        rw [List.drop_left, List.drop_drop, show e - x.length + x.length = e by omega] at this
        exact this.symm
      rw [h, hd] at hpre
      obtain ⟨z2, hz2⟩ := hpre
      have hne := (tokR_prefix _ y.1 (by rw [h3])).2
      rw [h3] at hne
      rw [← hz, ← hz2, ← List.append_assoc] at ht
      have := tok_parts hne ht
      rw [sepP, if_pos this]; rfl
    rw [bare, List.length_append, List.length_append]
    by_cases hc : pst isGap p e = e
    · have := hs0 hc; omega
    · omega
theorem bare_len0 (p : List UInt8) (ls : List Lx) (a : Nat) (h : Toks p a ls) : (bare none ls).length ≤ p.length := by
  cases ls with
  | nil => simp [bare]
  | cons y ls =>
    obtain ⟨h1, h2, h3, h4⟩ := h
    have hpre := (tokR_prefix _ y.1 (by rw [h3])).1
    rw [h3] at hpre
    have hpl := hpre.length_le
    simp only [List.length_drop] at hpl
    have := bare_len p ls (a + y.2.1.length) y.2.1 y.1 (by omega) (by omega) (by rw [Nat.add_sub_cancel]; exact h3) h4
    rw [bare, List.length_append, List.length_append]
    simp [sepP]; omega
theorem toks_count (p : List UInt8) : ∀ (ls : List Lx) (a : Nat), Toks p a ls → ls.length + a ≤ p.length ∨ ls = []
  | [], a, _ => .inr rfl
  | y :: ls, a, ⟨h1, h2, h3, h4⟩ => by
    have hpre := tokR_prefix _ y.1 (by rw [h3])
    rw [h3] at hpre
    have hpos : 0 < y.2.1.length := List.length_pos_iff.2 hpre.2
    have hge := pst_ge isGap p (a + y.2.1.length)
    rcases toks_count p ls _ h4 with h | h
    · left; simp; omega
    · subst h; left; simp; omega

/-- The bytes of a bare text. -/
theorem bare_bytes : ∀ (ys : List Lx) (q : Option (List UInt8)), (∀ z ∈ ys, Good z) → ∀ c ∈ bare q ys, cls c.toNat ≠ 0 ∧ c ≠ 37
  | [], q, _, c, hc => by simp [bare] at hc
  | y :: ys, q, hg, c, hc => by
    rw [bare, List.mem_append, List.mem_append] at hc
    rcases hc with (hc | hc) | hc
    · cases q with
      | none => simp [sepP] at hc
      | some a =>
        rw [sepP] at hc
        split at hc
        · simp at hc
        · simp at hc; subst hc; decide
    · have := tok_bytes (hg y (List.mem_cons_self ..)) c hc
      exact ⟨this.1, this.2.1⟩
    · exact bare_bytes ys _ (fun z hz => hg z (List.mem_cons_of_mem _ hz)) c hc

theorem scan_of_toks (p : List UInt8) : ∀ (ls : List Lx) (f a : Nat) (acc : List Lx), Toks p a ls → p.length < a + f → acc.length + ls.length ≤ 900 → scanGo p f a acc = (acc ++ ls, 0, 0)
  | [], f, a, acc, h, hf, hl => by
    have h1 : p.length ≤ a := h
    cases f with
    | zero => simp [scanGo]
    | succ f => rw [scanGo, if_neg (by omega)]; simp
  | y :: ls, f, a, acc, ⟨h1, h2, h3, h4⟩, hf, hl => by
    cases f with
    | zero => omega
    | succ f =>
      have hpre := tokR_prefix _ y.1 (by rw [h3])
      rw [h3] at hpre
      have hpos : 0 < y.2.1.length := List.length_pos_iff.2 hpre.2
      have hge := pst_ge isGap p (a + y.2.1.length)
      simp only [List.length_cons] at hl
      rw [scanGo, if_pos h1, h3]
      simp only
      rw [if_neg (by omega), scan_of_toks p ls f _ _ h4 (by omega) (by simp; omega)]
      have : (y.1, y.2.1, (a : Int)) = y := Prod.ext rfl (Prod.ext rfl h2.symm)
      rw [this]; simp
theorem scanF_clean {t : List UInt8} (hc : chkE t = 0) (h37 : ∀ c ∈ t, c ≠ 37) {zs : List Lx} (h : Toks t (pst isGap t 0) zs) (hl : zs.length ≤ 900) : scanF t = (zs, 0, 0) := by
  unfold scanF
  rw [if_neg (by omega), blankL_eq, blankF_id t h37]
  have := scan_of_toks t zs (t.length + 1) (pst isGap t 0) [] h (by omega) (by simpa using hl)
  simpa using this

/-- A bare text without one of its blanks has not the same tokens. -/
theorem rem_toks : ∀ (ys : List Lx) (y : Lx) (u : List UInt8) (i : Nat), (∀ z ∈ y :: ys, Good z) → u.length ≤ i → i < (u ++ (y.2.1 ++ bare (some y.2.1) ys)).length → (u ++ (y.2.1 ++ bare (some y.2.1) ys)).getD i 0 = 32 →
    ∀ zs, Toks ((u ++ (y.2.1 ++ bare (some y.2.1) ys)).take i ++ (u ++ (y.2.1 ++ bare (some y.2.1) ys)).drop (i + 1)) u.length zs → zs.map kt ≠ (y :: ys).map kt
  | ys, y, u, i, hg, hu, hi, h32, zs, hz, heq => by
    have hy := hg y (List.mem_cons_self ..)
    have hpos : 0 < y.2.1.length := List.length_pos_iff.2 hy.ne
    have hiy : u.length + y.2.1.length ≤ i := by
      refine Nat.le_of_not_lt fun hlt => ?_
      rw [getD_mid hu hlt] at h32
      exact (tok_bytes hy _ (getD_in (v := y.2.1) (by omega))).2.2 h32
    cases ys with
    | nil => simp [bare] at hi; omega
    | cons z ys =>
      have hzg := hg z (List.mem_cons_of_mem _ (List.mem_cons_self ..))
      have hzpos : 0 < z.2.1.length := List.length_pos_iff.2 hzg.ne
      cases zs with
      | nil => simp at heq
      | cons w zs =>
        obtain ⟨w1, w2, w3, w4⟩ := hz
        simp only [List.map_cons, List.cons.injEq] at heq
        obtain ⟨hw, heq⟩ := heq
        simp only [kt, Prod.mk.injEq] at hw
        rw [hw.1, hw.2] at w3
        rw [hw.2] at w4
        obtain ⟨s, hs⟩ : ∃ s, s = sepP (some y.2.1) z.2.1 := ⟨_, rfl⟩
        have hsg := sepP_gap (some y.2.1) z.2.1
        rw [bare, ← hs] at hi h32 w3 w4
        rw [← hs] at hsg
        obtain ⟨R, hR⟩ : ∃ R, R = bare (some z.2.1) ys := ⟨_, rfl⟩
        rw [← hR] at hi h32 w3 w4
        by_cases hsi : i < u.length + y.2.1.length + s.length
        · -- the blank between y and z
          have hs1 : s = [32] := by
            rw [hs, sepP] at hsi ⊢
            split at hsi
            · simp at hsi; omega
            · rename_i h; rw [if_neg h]
          have hp : ¬ partsF y.2.1 z.2.1 = true := fun h => by
            rw [hs, sepP, if_pos h] at hs1; cases hs1
          have hieq : i = u.length + y.2.1.length := by rw [hs1] at hsi; simp at hsi; omega
          rw [hs1, hieq] at w3
          have e : ((u ++ (y.2.1 ++ ([32] ++ z.2.1 ++ R))).take (u.length + y.2.1.length) ++ (u ++ (y.2.1 ++ ([32] ++ z.2.1 ++ R))).drop (u.length + y.2.1.length + 1)).drop u.length = y.2.1 ++ z.2.1 ++ R := by
            rw [show u ++ (y.2.1 ++ ([32] ++ z.2.1 ++ R)) = (u ++ y.2.1) ++ (32 :: (z.2.1 ++ R)) by simp, show u.length + y.2.1.length = (u ++ y.2.1).length by simp, List.take_left, ← List.drop_drop, List.drop_left]
            simp
          rw [e] at w3
          exact hp (tok_parts hzg.ne w3)
        · have hsi' : u.length + y.2.1.length + s.length ≤ i := by omega
          -- later: the same begins anew at z
          have e1 : u ++ (y.2.1 ++ (s ++ z.2.1 ++ R)) = (u ++ y.2.1 ++ s) ++ (z.2.1 ++ R) := by simp only [List.append_assoc]
          rw [e1] at hi h32 w4
          have hul : (u ++ y.2.1 ++ s).length = u.length + y.2.1.length + s.length := by simp only [List.length_append]
          have hrem : ((u ++ y.2.1 ++ s) ++ (z.2.1 ++ R)).take i ++ ((u ++ y.2.1 ++ s) ++ (z.2.1 ++ R)).drop (i + 1) = (u ++ y.2.1 ++ s) ++ ((z.2.1 ++ R).take (i - (u ++ y.2.1 ++ s).length) ++ (z.2.1 ++ R).drop (i - (u ++ y.2.1 ++ s).length + 1)) := by
            rw [List.take_append, List.take_of_length_le (by omega), List.drop_append, List.drop_of_length_le (by omega), List.nil_append, List.append_assoc, show i + 1 - (u ++ y.2.1 ++ s).length = i - (u ++ y.2.1 ++ s).length + 1 by omega]
          have hiz : z.2.1.length ≤ i - (u ++ y.2.1 ++ s).length := by
            refine Nat.le_of_not_lt fun hlt => ?_
            rw [getD_mid (by omega) (by omega)] at h32
            exact (tok_bytes hzg _ (getD_in (v := z.2.1) (by omega))).2.2 h32
          have hz2 : (z.2.1 ++ R).take (i - (u ++ y.2.1 ++ s).length) ++ (z.2.1 ++ R).drop (i - (u ++ y.2.1 ++ s).length + 1) = z.2.1 ++ (R.take (i - (u ++ y.2.1 ++ s).length - z.2.1.length) ++ R.drop (i - (u ++ y.2.1 ++ s).length + 1 - z.2.1.length)) := by
            rw [List.take_append, List.take_of_length_le (by omega), List.drop_append, List.drop_of_length_le (by omega), List.nil_append, List.append_assoc]
          have hgap := gapTo (u ++ y.2.1) s z.2.1 (R.take (i - (u ++ y.2.1 ++ s).length - z.2.1.length) ++ R.drop (i - (u ++ y.2.1 ++ s).length + 1 - z.2.1.length)) hsg hzg.ne hzg.solid
          have hst : pst isGap (((u ++ y.2.1 ++ s) ++ (z.2.1 ++ R)).take i ++ ((u ++ y.2.1 ++ s) ++ (z.2.1 ++ R)).drop (i + 1)) (u.length + y.2.1.length) = (u ++ y.2.1 ++ s).length := by
            rw [hrem, hz2, List.append_assoc (u ++ y.2.1) s, show u.length + y.2.1.length = (u ++ y.2.1).length by simp, hgap]
            simp only [List.length_append]
          rw [hst] at w4
          subst hR
          exact rem_toks ys z (u ++ y.2.1 ++ s) i (fun x hx => hg x (List.mem_cons_of_mem _ hx)) (by omega) hi h32 zs w4 heq
end Go.Proofs.YthmhklmoodffcaaDoor
