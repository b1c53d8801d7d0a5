/- The reference's Gap, against the text with blanks for its comments. -/
import Derived.Test.YtlhbfgkcalalkaaGreatDoorQm
import Derived.Test.YtlhbfgkcalalkaaGreatDoorBa
set_option linter.unusedVariables false
set_option linter.unusedSimpArgs false
namespace Go.Proofs.YtlhbfgkcalalkaaGreatDoor
open Go.RowKit Go.Shelf

/-- How long the gap is that begins a text; whether a comment goes on there. -/
def gapF : Bool → List UInt8 → Nat
  | _, [] => 0
  | b, c :: r => if c = 10 then 1 + gapF false r else if b = true ∨ c = 32 then 1 + gapF b r else if c = 37 then 1 + gapF true r else 0
theorem gapF_le (b : Bool) (l : List UInt8) : gapF b l ≤ l.length := by
  induction l generalizing b with
  | nil => simp [gapF]
  | cons c r ih =>
    have h1 := ih false; have h2 := ih true; have h3 := ih b
    rw [gapF, List.length_cons]
    split
    · omega
    · split
      · omega
      · split <;> omega
theorem isGap_iff (c : UInt8) : isGap c = true ↔ c = 10 ∨ c = 32 := by
  have e1 : c = 10 ↔ c.toNat = 10 := ⟨fun h => by rw [h]; rfl, fun h => UInt8.toNat_inj.1 h⟩
  have e2 : c = 32 ↔ c.toNat = 32 := ⟨fun h => by rw [h]; rfl, fun h => UInt8.toNat_inj.1 h⟩
  rw [e1, e2]
  simp only [isGap, ofCls, List.mem_singleton, decide_eq_true_eq]
  unfold cls
  constructor
  · intro h
    by_cases h1 : c.toNat = 32 ∨ c.toNat = 10
    · omega
    · rw [if_neg h1] at h
      split at h
      · omega
      · split at h
        · omega
        · split at h <;> omega
  · intro h; rw [if_pos (by omega)]
theorem gap_take (b : Bool) (l : List UInt8) : ((blankF b l).takeWhile isGap).length = gapF b l := by
  induction l generalizing b with
  | nil => rfl
  | cons c r ih =>
    rw [blankF, gapF]
    by_cases h1 : c = 10
    · rw [if_pos h1, if_pos h1, List.takeWhile_cons, if_pos ((isGap_iff 10).2 (.inl rfl)), List.length_cons, ih, Nat.add_comm]
    · rw [if_neg h1, if_neg h1]
      by_cases h2 : b = true
      · subst h2
        rw [if_pos (.inl rfl), if_pos (.inl rfl), List.takeWhile_cons, if_pos ((isGap_iff 32).2 (.inr rfl)), List.length_cons, ih, Nat.add_comm]
      · by_cases h3 : c = 37
        · rw [if_pos (.inr h3), if_neg (by rintro (h | h); exact h2 h; rw [h3] at h; exact absurd h (by decide)), if_pos h3, List.takeWhile_cons, if_pos ((isGap_iff 32).2 (.inr rfl)), List.length_cons, ih, Nat.add_comm]
        · rw [if_neg (by rintro (h | h); exact h2 h; exact h3 h)]
          have hb : b = false := by simpa using h2
          subst hb
          by_cases h4 : c = 32
          · rw [if_pos (.inr h4), List.takeWhile_cons, if_pos ((isGap_iff c).2 (.inr h4)), List.length_cons, ih, Nat.add_comm]
          · rw [if_neg (by rintro (h | h); cases h; exact h4 h), if_neg h3, List.takeWhile_cons, if_neg (by rw [isGap_iff]; rintro (h | h); exact h1 h; exact h4 h)]; rfl
/-- Behind a gap no comment goes on. -/
theorem gap_drop (b : Bool) (l : List UInt8) : (blankF b l).drop (gapF b l) = blankF false (l.drop (gapF b l)) := by
  induction l generalizing b with
  | nil => cases b <;> rfl
  | cons c r ih =>
    rw [blankF, gapF]
    by_cases h1 : c = 10
    · rw [if_pos h1, if_pos h1, Nat.add_comm, List.drop_succ_cons, List.drop_succ_cons, ih]
    · rw [if_neg h1, if_neg h1]
      by_cases h2 : b = true
      · subst h2
        rw [if_pos (show (true = true ∨ c = 37) from .inl rfl), if_pos (show (true = true ∨ c = 32) from .inl rfl), Nat.add_comm, List.drop_succ_cons, List.drop_succ_cons, ih]
      · have hb : b = false := by simpa using h2
        subst hb
        by_cases h3 : c = 37
        · rw [if_pos (show (false = true ∨ c = 37) from .inr h3), if_neg (show ¬ (false = true ∨ c = 32) by rintro (h | h); exact h2 h; rw [h3] at h; exact absurd h (by decide)), if_pos h3, Nat.add_comm, List.drop_succ_cons, List.drop_succ_cons, ih]
        · rw [if_neg (show ¬ (false = true ∨ c = 37) by rintro (h | h); exact h2 h; exact h3 h)]
          by_cases h4 : c = 32
          · rw [if_pos (show (false = true ∨ c = 32) from .inr h4), Nat.add_comm, List.drop_succ_cons, List.drop_succ_cons, ih]
          · rw [if_neg (show ¬ (false = true ∨ c = 32) by rintro (h | h); cases h; exact h4 h), if_neg h3, List.drop_zero, List.drop_zero, blankF, if_neg h1, if_neg (show ¬ (false = true ∨ c = 37) by rintro (h | h); cases h; exact h3 h)]
/-- What stands behind a gap that ends before the text does. -/
theorem gap_head (b : Bool) (l : List UInt8) (h : gapF b l < l.length) : ∀ c ∈ (l.drop (gapF b l)).head?, c ≠ 10 ∧ c ≠ 32 ∧ c ≠ 37 := by
  induction l generalizing b with
  | nil => simp at h
  | cons c r ih =>
    rw [gapF] at h ⊢
    rw [List.length_cons] at h
    by_cases h1 : c = 10
    · rw [if_pos h1] at h ⊢
      rw [Nat.add_comm, List.drop_succ_cons]; exact ih false (by omega)
    · rw [if_neg h1] at h ⊢
      by_cases h2 : b = true ∨ c = 32
      · rw [if_pos h2] at h ⊢
        rw [Nat.add_comm, List.drop_succ_cons]; exact ih b (by omega)
      · rw [if_neg h2] at h ⊢
        by_cases h3 : c = 37
        · rw [if_pos h3] at h ⊢
          rw [Nat.add_comm, List.drop_succ_cons]; exact ih true (by omega)
        · rw [if_neg h3, List.drop_zero]
          intro d hd
          simp at hd
          subst hd
          exact ⟨h1, fun e => h2 (.inr e), h3⟩

/-- A text of bytes that are no line feed and begin no comment stays. -/
theorem blankF_keep (t r : List UInt8) (h : ∀ c ∈ t, c ≠ 10 ∧ c ≠ 37) : blankF false (t ++ r) = t ++ blankF false r := by
  induction t with
  | nil => rfl
  | cons c t ih =>
    obtain ⟨h1, h2⟩ := h c (List.mem_cons_self ..)
    rw [List.cons_append, blankF, if_neg h1, if_neg (by rintro (e | e); cases e; exact h2 e), ih (fun d hd => h d (List.mem_cons_of_mem _ hd)), List.cons_append]
theorem take_blank (f : UInt8 → Bool) (h10 : f 10 = false) (h32 : f 32 = false) (h37 : f 37 = false) (l : List UInt8) : (blankF false l).takeWhile f = l.takeWhile f := by
  induction l with
  | nil => rfl
  | cons c r ih =>
    rw [blankF]
    by_cases h1 : c = 10
    · rw [if_pos h1, h1, List.takeWhile_cons, List.takeWhile_cons, h10]; rfl
    · rw [if_neg h1]
      by_cases h2 : c = 37
      · rw [if_pos (.inr h2), h2, List.takeWhile_cons, List.takeWhile_cons, h32, h37]; rfl
      · rw [if_neg (by rintro (e | e); cases e; exact h2 e), List.takeWhile_cons, List.takeWhile_cons, ih]
theorem prefix_blank (t l : List UInt8) (h : ∀ c ∈ t, c ≠ 10 ∧ c ≠ 32 ∧ c ≠ 37) : Lib.hasPrefix (blankF false l) t = Lib.hasPrefix l t := by
  induction t generalizing l with
  | nil => simp [Lib.hasPrefix]
  | cons c t ih =>
    obtain ⟨h1, h2, h3⟩ := h c (List.mem_cons_self ..)
    cases l with
    | nil => rfl
    | cons d r =>
      have ih' := ih r (fun e he => h e (List.mem_cons_of_mem _ he))
      simp only [Lib.hasPrefix] at ih' ⊢
      rw [blankF]
      by_cases e1 : d = 10
      · rw [if_pos e1]
        have : (c == 10) = false := by simpa using h1
        rw [List.isPrefixOf_cons_cons, List.isPrefixOf_cons_cons, e1, this, Bool.false_and, Bool.false_and]
      · rw [if_neg e1]
        by_cases e2 : d = 37
        · rw [if_pos (.inr e2)]
          have g1 : (c == 32) = false := by simpa using h2
          have g2 : (c == 37) = false := by simpa using h3
          rw [List.isPrefixOf_cons_cons, List.isPrefixOf_cons_cons, e2, g1, g2, Bool.false_and, Bool.false_and]
        · rw [if_neg (by rintro (e | e); cases e; exact e2 e), List.isPrefixOf_cons_cons, List.isPrefixOf_cons_cons, ih']
theorem signAt_blank (l : List UInt8) : signAt (blankF false l) = signAt l := by
  have hs : ∀ t ∈ signsL, ∀ c ∈ t, c ≠ 10 ∧ c ≠ 32 ∧ c ≠ 37 := by decide
  unfold signAt
  have : ∀ ts : List (List UInt8), (∀ t ∈ ts, ∀ c ∈ t, c ≠ 10 ∧ c ≠ 32 ∧ c ≠ 37) → ts.find? (fun p => Lib.hasPrefix (blankF false l) p) = ts.find? (fun p => Lib.hasPrefix l p) := by
    intro ts
    induction ts with
    | nil => intro _; rfl
    | cons t ts ih =>
      intro h
      rw [List.find?_cons, List.find?_cons, prefix_blank t l (h t (List.mem_cons_self ..)), ih (fun u hu => h u (List.mem_cons_of_mem _ hu))]
  exact this signsL hs
/-- Where no gap begins the token is that of the text with blanks for its comments. -/
theorem tokR_blank (l : List UInt8) (h : ∀ c ∈ l.head?, c ≠ 10 ∧ c ≠ 32 ∧ c ≠ 37) : tokR (blankF false l) = tokR l := by
  cases l with
  | nil => rfl
  | cons c r =>
    obtain ⟨h1, h2, h3⟩ := h c rfl
    have e : blankF false (c :: r) = c :: blankF false r := by rw [blankF, if_neg h1, if_neg (by rintro (e | e); cases e; exact h3 e)]
    have t1 := take_blank (ofCls [2, 3]) (by decide) (by decide) (by decide) (c :: r)
    have t2 := take_blank (ofCls [3]) (by decide) (by decide) (by decide) (c :: r)
    have t3 := signAt_blank (c :: r)
    rw [e] at t1 t2 t3 ⊢
    unfold tokR
    simp only
    rw [t1, t2, t3]
/-- A token has no line feed, and begins no comment. -/
theorem tokR_plain (l : List UInt8) (k : Nat) (t : List UInt8) (h : tokR l = (some k, t)) : ∀ c ∈ t, c ≠ 10 ∧ c ≠ 37 := by
  have hw : ∀ (f : UInt8 → Bool), f 10 = false → f 37 = false → ∀ c ∈ l.takeWhile f, c ≠ 10 ∧ c ≠ 37 := by
    intro f f1 f2 c hc
    have : f c = true := List.all_eq_true.1 (List.all_takeWhile (p := f) (l := l)) c hc
    constructor <;> (intro e; subst e)
    · rw [f1] at this; cases this
    · rw [f2] at this; cases this
  cases l with
  | nil => simp [tokR] at h
  | cons c r =>
    unfold tokR at h
    simp only at h
    split at h
    · obtain ⟨_, rfl⟩ := Prod.mk.inj h
      exact hw _ (by decide) (by decide)
    · split at h
      · obtain ⟨_, rfl⟩ := Prod.mk.inj h
        exact hw _ (by decide) (by decide)
      · cases hs : signAt (c :: r) with
        | none => rw [hs] at h; simp at h
        | some u =>
          rw [hs] at h
          obtain ⟨_, rfl⟩ := Prod.mk.inj h
          have hm := List.mem_of_find?_eq_some hs
          have : ∀ y ∈ signsL, ∀ c ∈ y, c ≠ 10 ∧ c ≠ 37 := by decide
          exact this _ hm

set_option maxRecDepth 100000 in
set_option maxHeartbeats 2000000 in
/-- Gap. -/
theorem gap_any (s : ByteArray) (at_ : Nat) (w : World) (hs : s.size ≤ maxLen) (ha : at_ ≤ s.size) :
    Calls Tryz.prog 31 #[.string s, .int .i64 at_] w fun e w' => e = .returned (.int .i64 ((at_ + gapF false (s.data.toList.drop at_) : Nat) : Int)) ∧ w = w' := by
  unfold maxLen at hs
  go_enter Tryz.func31, Tryz.ntmps31
  go_wp2
  go_loop [1, 5] (fun i b => ∃ (k : Nat) (ins : Bool), k ≤ s.size ∧ i = .int .i64 k ∧ b = .bool ins ∧ Hid (k + gapF ins (s.data.toList.drop k) = at_ + gapF false (s.data.toList.drop at_))) (fun i _ => s.size - (intOf i).toNat)
  case atStart => exact ⟨at_, false, ha, rfl, rfl, rfl⟩
  case round =>
    obtain ⟨k, ins, hk, rfl, rfl, hpre⟩ := hrel
    by_cases hlt : k < s.size
    · have hl : k < s.data.toList.length := by simpa using hlt
      have hd : s.data.toList.drop k = s[k] :: s.data.toList.drop (k + 1) := by rw [List.drop_eq_getElem_cons hl]; rfl
      have hstep := hpre.out
      rw [hd, gapF] at hstep
      have n10 : s[k] = 10 ↔ s[k].toNat = 10 := ⟨fun h => by rw [h]; rfl, fun h => UInt8.toNat_inj.1 h⟩
      have n32 : s[k] = 32 ↔ s[k].toNat = 32 := ⟨fun h => by rw [h]; rfl, fun h => UInt8.toNat_inj.1 h⟩
      have n37 : s[k] = 37 ↔ s[k].toNat = 37 := ⟨fun h => by rw [h]; rfl, fun h => UInt8.toNat_inj.1 h⟩
      by_cases h1 : s[k].toNat = 10
      · rw [if_pos (n10.2 h1)] at hstep
        have H : Hid (k + 1 + gapF false (s.data.toList.drop (k + 1)) = at_ + gapF false (s.data.toList.drop at_)) := by show _ = _; omega
        have g1 : ((s[k].toNat : Int) == 10) = true := by rw [h1]; rfl
        clear hstep hpre hd n10 n32 n37 h1
        go_wp2
        go_round
        case rel => exact ⟨k + 1, false, by omega, by go_num, rfl, H⟩
        case measure => simp [intOf]; omega
      · rw [if_neg (fun e => h1 (n10.1 e))] at hstep
        have g1 : ((s[k].toNat : Int) == 10) = false := by rw [beq_eq_false_iff_ne]; omega
        cases ins with
        | true =>
          rw [if_pos (.inl rfl)] at hstep
          have H : Hid (k + 1 + gapF true (s.data.toList.drop (k + 1)) = at_ + gapF false (s.data.toList.drop at_)) := by show _ = _; omega
          clear hstep hpre hd n10 n32 n37 h1
          go_wp2
          go_round
          case rel => exact ⟨k + 1, true, by omega, by go_num, rfl, H⟩
          case measure => simp [intOf]; omega
        | false =>
          by_cases h2 : s[k].toNat = 32
          · rw [if_pos (.inr (n32.2 h2))] at hstep
            have H : Hid (k + 1 + gapF false (s.data.toList.drop (k + 1)) = at_ + gapF false (s.data.toList.drop at_)) := by show _ = _; omega
            have g2 : ((s[k].toNat : Int) == 32) = true := by rw [h2]; rfl
            clear hstep hpre hd n10 n32 n37 h1 h2
            go_wp2
            go_round
            case rel => exact ⟨k + 1, false, by omega, by go_num, rfl, H⟩
            case measure => simp [intOf]; omega
          · have g2 : ((s[k].toNat : Int) == 32) = false := by rw [beq_eq_false_iff_ne]; omega
            rw [if_neg (by rintro (e | e); cases e; exact h2 (n32.1 e))] at hstep
            by_cases h3 : s[k].toNat = 37
            · rw [if_pos (n37.2 h3)] at hstep
              have H : Hid (k + 1 + gapF true (s.data.toList.drop (k + 1)) = at_ + gapF false (s.data.toList.drop at_)) := by show _ = _; omega
              have g3 : ((s[k].toNat : Int) == 37) = true := by rw [h3]; rfl
              clear hstep hpre hd n10 n32 n37 h1 h2 h3
              go_wp2
              go_round
              case rel => exact ⟨k + 1, true, by omega, by go_num, rfl, H⟩
              case measure => simp [intOf]; omega
            · have g3 : ((s[k].toNat : Int) == 37) = false := by rw [beq_eq_false_iff_ne]; omega
              rw [if_neg (fun e => h3 (n37.1 e))] at hstep
              have H : Hid (at_ + gapF false (s.data.toList.drop at_) = k) := by show _ = _; omega
              clear hstep hpre hd n10 n32 n37 h1 h2 h3
              go_wp2
              go_ret
              exact ⟨ret_int (by have := H.out; omega), rfl⟩
    · have H : Hid (at_ + gapF false (s.data.toList.drop at_) = k) := by
        show _ = _; rw [← hpre.out, List.drop_of_length_le (by simp; omega)]; simp [gapF]
      clear hpre
      go_wp2
      go_ret
      exact ⟨ret_int (by have := H.out; omega), rfl⟩
end Go.Proofs.YtlhbfgkcalalkaaGreatDoor
