/- The contracts of kind, parts and Kind. -/
import Derived.Test.YtlhbfgkcalalkaaDoorFb
set_option linter.unusedVariables false
set_option linter.unusedSimpArgs false
namespace Go.Proofs.YtlhbfgkcalalkaaDoor
open Go.RowKit Go.WideMaps Go.Maps

/-- The kind of the token that a text is. -/
def kindR (r : List UInt8) : Option Nat := match tokR r with
  | (some k, t) => if t = r then some k else none
  | (none, _) => none

set_option maxRecDepth 100000 in
set_option maxHeartbeats 2000000 in
theorem kind_any (g : Value) (l : List UInt8) (w : World) (hs : l.length ≤ 281474976710656) (hg : Gram w g) (he : ErrOk w) :
    Calls Tryd.prog 25 #[g, .string (mkS l)] w fun e w' => e = .returned (.tuple #[.int .u8 ((kindR l).getD 0), .bool (kindR l).isSome]) ∧ Below w.heap.size w w' := by
  have CT : Hid (∀ W, Below w.heap.size w W → Calls Tryd.prog 22 #[g, .string (mkS l), .int .i64 0] W fun e w' => e = .returned (tokOut (tokR l).1 (mkS (tokR l).2) 0) ∧ Below W.heap.size W w') := fun W hb => by
    have := token_any g (mkS l) 0 W (by rw [mkS_size]; exact hs) (Nat.zero_le _) (hg.below hb) (he.below hb)
    rw [mkS_list, List.drop_zero] at this; exact this
  obtain ⟨mb, sb, rfl, _⟩ := hg
  obtain ⟨k, t, hkt⟩ : ∃ k t, tokR l = (k, t) := ⟨_, _, rfl⟩
  rw [hkt] at CT
  clear he
  cases k with
  | none =>
    have HK : Hid (kindR l = none) := by show _ = _; unfold kindR; rw [hkt]
    clear hkt
    simp only [tokOut, tkK, tkT, tkA, Option.isSome_none, Option.getD_none, if_false, Bool.false_eq_true] at CT
    go_enter Tryd.func25, Tryd.ntmps25
    go_wp2_with fail
    refine (CT.out _ ((Below.refl _ _).alloc (Nat.le_refl _) _)).mono ?_
    rintro e w1 ⟨rfl, hb⟩
    have hfin : Below w.heap.size w w1 := ((Below.refl _ _).alloc (Nat.le_refl _) _).trans (hb.mono (by simp))
    clear hb
    go_wp2
    go_ret2
    exact ⟨by rw [HK.out]; rfl, hfin.alloc hfin.size _⟩
  | some kk =>
    simp only [tokOut, tkK, tkT, tkA, Option.isSome_some, Option.getD_some, if_true] at CT
    by_cases htl : t = l
    · subst htl
      have HK : Hid (kindR t = some kk) := by show _ = _; unfold kindR; rw [hkt]; simp
      clear hkt
      go_enter Tryd.func25, Tryd.ntmps25
      go_wp2_with fail
      refine (CT.out _ ((Below.refl _ _).alloc (Nat.le_refl _) _)).mono ?_
      rintro e w1 ⟨rfl, hb⟩
      have hfin : Below w.heap.size w w1 := ((Below.refl _ _).alloc (Nat.le_refl _) _).trans (hb.mono (by simp))
      clear hb
      go_wp2
      go_ret2
      exact ⟨by rw [HK.out]; rfl, hfin.alloc hfin.size _⟩
    · have HK : Hid (kindR l = none) := by show _ = _; unfold kindR; rw [hkt]; simp [htl]
      have g2 : ¬ ((mkS t).toList = (mkS l).toList) := by rw [mkS_tl]; exact htl
      have g3 : ((mkS t).toList == (mkS l).toList) = false := beq_eq_false_iff_ne.2 g2
      clear hkt htl
      go_enter Tryd.func25, Tryd.ntmps25
      go_wp2_with fail
      refine (CT.out _ ((Below.refl _ _).alloc (Nat.le_refl _) _)).mono ?_
      rintro e w1 ⟨rfl, hb⟩
      have hfin : Below w.heap.size w w1 := ((Below.refl _ _).alloc (Nat.le_refl _) _).trans (hb.mono (by simp))
      clear hb
      go_wp2
      go_ret2
      exact ⟨by rw [HK.out]; rfl, hfin.alloc hfin.size _⟩

/-- Whether a token is still read if the text of another one follows. -/
def partsF (a b : List UInt8) : Bool := (tokR (a ++ b)).1.isSome && (tokR (a ++ b)).2 == a
theorem mkS_append (a b : List UInt8) : mkS a ++ mkS b = mkS (a ++ b) := by
  apply ByteArray.ext; simp [mkS]

set_option maxRecDepth 100000 in
set_option maxHeartbeats 2000000 in
theorem parts_any (g : Value) (a b : List UInt8) (w : World) (hs : a.length + b.length ≤ 281474976710656) (hg : Gram w g) (he : ErrOk w) :
    Calls Tryd.prog 26 #[g, .string (mkS a), .string (mkS b)] w fun e w' => e = .returned (.bool (partsF a b)) ∧ Below w.heap.size w w' := by
  have CT : Hid (∀ W, Below w.heap.size w W → Calls Tryd.prog 22 #[g, .string (mkS a ++ mkS b), .int .i64 0] W fun e w' => e = .returned (tokOut (tokR (a ++ b)).1 (mkS (tokR (a ++ b)).2) 0) ∧ Below W.heap.size W w') := fun W hb => by
    rw [mkS_append]
    have := token_any g (mkS (a ++ b)) 0 W (by rw [mkS_size]; simp; omega) (Nat.zero_le _) (hg.below hb) (he.below hb)
    rw [mkS_list, List.drop_zero] at this; exact this
  have hsa : (mkS a).size = a.length := mkS_size a
  have hsb : (mkS b).size = b.length := mkS_size b
  have hs' : (mkS a).size + (mkS b).size ≤ 281474976710656 := by omega
  obtain ⟨mb, sb, rfl, _⟩ := hg
  obtain ⟨k, t, hkt⟩ : ∃ k t, tokR (a ++ b) = (k, t) := ⟨_, _, rfl⟩
  rw [hkt] at CT
  clear he hsa hsb hs
  cases k with
  | none =>
    have HK : Hid (partsF a b = false) := by show _ = _; unfold partsF; rw [hkt]; rfl
    clear hkt
    simp only [tokOut, tkK, tkT, tkA, Option.isSome_none, Option.getD_none, if_false, Bool.false_eq_true] at CT
    go_enter Tryd.func26, Tryd.ntmps26
    go_wp2_with fail
    refine (CT.out _ ((Below.refl _ _).alloc (Nat.le_refl _) _)).mono ?_
    rintro e w1 ⟨rfl, hb⟩
    have hfin : Below w.heap.size w w1 := ((Below.refl _ _).alloc (Nat.le_refl _) _).trans (hb.mono (by simp))
    clear hb
    go_wp2
    go_ret
    exact ⟨ret_bool HK.out.symm, hfin.alloc hfin.size _⟩
  | some kk =>
    simp only [tokOut, tkK, tkT, tkA, Option.isSome_some, Option.getD_some, if_true] at CT
    by_cases htl : t = a
    · subst htl
      have HK : Hid (partsF t b = true) := by show _ = _; unfold partsF; rw [hkt]; simp
      clear hkt
      go_enter Tryd.func26, Tryd.ntmps26
      go_wp2_with fail
      refine (CT.out _ ((Below.refl _ _).alloc (Nat.le_refl _) _)).mono ?_
      rintro e w1 ⟨rfl, hb⟩
      have hfin : Below w.heap.size w w1 := ((Below.refl _ _).alloc (Nat.le_refl _) _).trans (hb.mono (by simp))
      clear hb
      go_wp2
      go_ret
      exact ⟨ret_bool HK.out.symm, hfin.alloc hfin.size _⟩
    · have HK : Hid (partsF a b = false) := by show _ = _; unfold partsF; rw [hkt]; simp [htl]
      have g2 : ¬ ((mkS t).toList = (mkS a).toList) := by rw [mkS_tl]; exact htl
      have g3 : ((mkS t).toList == (mkS a).toList) = false := beq_eq_false_iff_ne.2 g2
      clear hkt htl
      go_enter Tryd.func26, Tryd.ntmps26
      go_wp2_with fail
      refine (CT.out _ ((Below.refl _ _).alloc (Nat.le_refl _) _)).mono ?_
      rintro e w1 ⟨rfl, hb⟩
      have hfin : Below w.heap.size w w1 := ((Below.refl _ _).alloc (Nat.le_refl _) _).trans (hb.mono (by simp))
      clear hb
      go_wp2
      go_ret
      exact ⟨ret_bool HK.out.symm, hfin.alloc hfin.size _⟩
end Go.Proofs.YtlhbfgkcalalkaaDoor
