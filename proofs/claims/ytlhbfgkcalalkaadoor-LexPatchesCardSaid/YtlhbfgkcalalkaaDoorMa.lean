/- Plain arithmetic of numerals: what strconv.Atoi takes, and what the reference takes for a number. -/
import Derived.Lib.AtoiAllCases
set_option linter.unusedVariables false
namespace Go.Proofs.YtlhbfgkcalalkaaDoor

def isNum (l : List UInt8) : Bool := decide (l = [48]) || (decide (l ≠ []) && decide (l.head? ≠ some 48) && (decide (l.length < 10) || decide (l = [49, 48, 48, 48, 48, 48, 48, 48, 48, 48])))

def Dig (l : List UInt8) : Prop := ∀ c ∈ l, 48 ≤ c.toNat ∧ c.toNat ≤ 57
def numV (acc : Nat) (l : List UInt8) : Nat := l.foldl (fun a c => a * 10 + (c.toNat - 48)) acc
theorem numV_nil (acc : Nat) : numV acc [] = acc := rfl
theorem numV_cons (acc : Nat) (c : UInt8) (r : List UInt8) : numV acc (c :: r) = numV (acc * 10 + (c.toNat - 48)) r := by simp only [numV, List.foldl_cons]
theorem val_ge : ∀ (l : List UInt8) (acc : Nat), acc ≤ numV acc l
  | [], acc => Nat.le_refl _
  | c :: r, acc => by
    have := val_ge r (acc * 10 + (c.toNat - 48))
    rw [numV_cons]
    omega
theorem parse_dig : ∀ (l : List UInt8) (acc : Nat), Dig l → Lib.parseUint10 acc l = .ok (numV acc l) ∨ (Lib.parseUint10 acc l = .range ∧ 1844674407370955162 ≤ numV acc l)
  | [], acc, _ => .inl rfl
  | c :: r, acc, h => by
    have hc := h c (by simp)
    simp only [Lib.parseUint10, hc, and_self, if_true]
    split
    · exact .inr ⟨rfl, by have := val_ge (c :: r) acc; omega⟩
    · split
      · refine .inr ⟨rfl, ?_⟩
        have := val_ge r (acc * 10 + (c.toNat - 48))
        rw [numV_cons]
        omega
      · rw [numV_cons]; exact parse_dig r _ (fun x hx => h x (by simp [hx]))
theorem atoi_dig (l : List UInt8) (h : Dig l) (h0 : l ≠ []) : (Lib.atoiAll l = .ok (numV 0 l : Int)) ∨ (Lib.atoiAll l = .range ∧ 1844674407370955162 ≤ numV 0 l) := by
  match l, h, h0 with
  | c :: r, h, _ =>
    have hc := h c (by simp)
    rw [Lib.atoiAll_plain c r (by omega) (by omega)]
    have hp := parse_dig (c :: r) 0 h
    have hm : Lib.parseMag (c :: r) = Lib.parseUint10 0 (c :: r) := by simp [Lib.parseMag]
    rw [hm]
    rcases hp with hp | ⟨hp, hv⟩
    · rw [hp]
      simp only [Lib.signless]
      split
      · exact .inr ⟨rfl, by omega⟩
      · exact .inl rfl
    · rw [hp]
      exact .inr ⟨rfl, hv⟩
theorem val_split (l : List UInt8) : ∀ acc : Nat, numV acc l = acc * 10 ^ l.length + numV 0 l := by
  induction l with
  | nil => intro acc; simp [numV_nil]
  | cons c r ih =>
    intro acc
    rw [numV_cons, numV_cons, ih (acc * 10 + (c.toNat - 48)), ih (0 * 10 + (c.toNat - 48)), List.length_cons, Nat.pow_succ]
    generalize 10 ^ r.length = p
    generalize numV 0 r = q
    generalize c.toNat - 48 = d
    rw [Nat.zero_mul, Nat.zero_add, Nat.add_mul, Nat.mul_assoc, Nat.mul_comm 10 p, Nat.add_assoc]
theorem val_lt : ∀ (l : List UInt8), Dig l → numV 0 l < 10 ^ l.length
  | [], _ => by simp [numV_nil]
  | c :: r, h => by
    have hc := h c (by simp)
    have hr := val_lt r (fun x hx => h x (by simp [hx]))
    rw [numV_cons, val_split r, Nat.zero_mul, Nat.zero_add]
    simp only [List.length_cons, Nat.pow_succ]
    have : (c.toNat - 48) * 10 ^ r.length ≤ 9 * 10 ^ r.length := Nat.mul_le_mul_right _ (by omega)
    omega
theorem val_zero : ∀ (l : List UInt8), Dig l → numV 0 l = 0 → l = List.replicate l.length 48
  | [], _, _ => rfl
  | c :: r, h, hv => by
    have hc := h c (by simp)
    have e := hv
    rw [numV_cons, val_split r] at e
    have hp : 0 < 10 ^ r.length := Nat.pow_pos (by omega)
    have h1 : c.toNat - 48 = 0 := by
      rcases Nat.eq_zero_or_pos (c.toNat - 48) with h | h
      · exact h
      · have : 1 * 10 ^ r.length ≤ (0 * 10 + (c.toNat - 48)) * 10 ^ r.length := Nat.mul_le_mul_right _ (by omega)
        omega
    have h2 : numV 0 r = 0 := by omega
    have h3 := val_zero r (fun x hx => h x (by simp [hx])) h2
    have h4 : c = 48 := by apply UInt8.toNat_inj.1; show c.toNat = 48; omega
    rw [List.length_cons, List.replicate_succ, ← h3, h4]
/-- What lex takes for a number: its value, and no needless zero. -/
theorem num_iff (l : List UInt8) (h : Dig l) (h0 : l ≠ []) : isNum l = (decide (numV 0 l ≤ 1000000000) && !(decide (l.head? = some 48) && decide (l ≠ [48]))) := by
  match l, h, h0 with
  | c :: r, h, _ =>
    have hc := h c (by simp)
    have hr : Dig r := fun x hx => h x (by simp [hx])
    by_cases hz : c = 48
    · subst hz
      by_cases he : r = []
      · subst he; decide
      · simp [isNum, he]
    · have hz' : c.toNat ≠ 48 := fun e => hz (UInt8.toNat_inj.1 e)
      have hv : numV 0 (c :: r) = (c.toNat - 48) * 10 ^ r.length + numV 0 r := by
        rw [numV_cons, val_split r]; simp
      have hlt := val_lt r hr
      have hlo : 1 * 10 ^ r.length ≤ (c.toNat - 48) * 10 ^ r.length := Nat.mul_le_mul_right _ (by omega)
      have hup := val_lt (c :: r) h
      have e1 : isNum (c :: r) = (decide (r.length + 1 < 10) || decide (c :: r = [49, 48, 48, 48, 48, 48, 48, 48, 48, 48])) := by
        simp [isNum, hz]
      have e2 : (decide (numV 0 (c :: r) ≤ 1000000000) && !(decide ((c :: r).head? = some 48) && decide (c :: r ≠ [48]))) = decide (numV 0 (c :: r) ≤ 1000000000) := by
        simp [hz]
      rw [e1, e2]
      rcases Nat.lt_trichotomy r.length 9 with hl | hl | hl
      · have : (10 : Nat) ^ (r.length + 1) ≤ 10 ^ 9 := Nat.pow_le_pow_right (by omega) (by omega)
        have hup' : numV 0 (c :: r) < 10 ^ (r.length + 1) := hup
        have a : r.length + 1 < 10 := by omega
        have h9 : (10:Nat) ^ 9 = 1000000000 := by decide
        have b : numV 0 (c :: r) ≤ 1000000000 := by omega
        simp [a, b]
      · have p9 : (10 : Nat) ^ r.length = 1000000000 := by rw [hl]
        have a : ¬ r.length + 1 < 10 := by omega
        by_cases hq : c :: r = [49, 48, 48, 48, 48, 48, 48, 48, 48, 48]
        · have : numV 0 (c :: r) ≤ 1000000000 := by rw [hq]; decide
          rw [hq, decide_eq_true (show numV 0 [49, 48, 48, 48, 48, 48, 48, 48, 48, 48] ≤ 1000000000 by decide)]; simp
        · have b : ¬ numV 0 (c :: r) ≤ 1000000000 := by
            intro hle
            apply hq
            rw [hv, p9] at hle
            have h1 : c.toNat = 49 := by omega
            have h2 : numV 0 r = 0 := by omega
            have h3 := val_zero r hr h2
            have h4 : c = 49 := by apply UInt8.toNat_inj.1; exact h1
            rw [h3, h4, hl]; rfl
          simp [a, b, hq]
      · have : (10 : Nat) ^ 10 ≤ 10 ^ r.length := Nat.pow_le_pow_right (by omega) (by omega)
        have p10 : (10:Nat) ^ 10 = 10000000000 := by decide
        have a : ¬ r.length + 1 < 10 := by omega
        have b : ¬ numV 0 (c :: r) ≤ 1000000000 := by omega
        have hq : ¬ (c :: r = [49, 48, 48, 48, 48, 48, 48, 48, 48, 48]) := by
          intro e; have := congrArg List.length e; simp at this; omega
        simp [a, b, hq]
end Go.Proofs.YtlhbfgkcalalkaaDoor
