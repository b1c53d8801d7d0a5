/- The contract of Both. -/
import Derived.Test.YthmhklmoodffcaaDoorVb
set_option linter.unusedVariables false
set_option linter.unusedSimpArgs false
namespace Go.Proofs.YthmhklmoodffcaaDoor
open Go.RowKit Go.Shelf

theorem splF_put' {s : List UInt8} {x : Ed} : x.2.2.length ≤ (splF s x).length := by unfold splF; simp; omega

theorem both_ok (s : List UInt8) (x y : Ed) (w : World) (h : doE s x = 0) (h2 : doE (splF s x) y = 0) :
    Calls Tryd.prog 30 #[.string (mkS s), edV x, edV y] w fun e w' => e = .returned (.tuple #[edV (bothF s x y).1, .int .i64 (bothF s x y).2]) ∧ Below w.heap.size w w' := by
  have ls := chkE_len (doE_parts h).1
  have lt := chkE_len (doE_parts h).2.2
  have lu := chkE_len (doE_parts h2).2.2
  have lp : x.2.2.length ≤ 2500 := Nat.le_trans splF_put' lt
  have lq : y.2.2.length ≤ 2500 := Nat.le_trans splF_put' lu
  obtain ⟨F, T, hx, h3, h4⟩ := isEd_nat (doE_isEd h)
  obtain ⟨F', T', p⟩ := x
  simp only [Prod.mk.injEq] at hx
  obtain ⟨rfl, rfl, _⟩ := hx
  obtain ⟨G, H, hy, h5, h6⟩ := isEd_nat (doE_isEd h2)
  obtain ⟨G', H', q⟩ := y
  simp only [Prod.mk.injEq] at hy
  obtain ⟨rfl, rfl, _⟩ := hy
  have lp' : p.length ≤ 2500 := lp
  have lq' : q.length ≤ 2500 := lq
  obtain ⟨to, en, e1, e2, k1, k2, k3, k4, k5, k6⟩ := both_at s p q F T G H h3 h4 h5 h6
  have hm : min (F : Int) (G : Int) = ((min F G : Nat) : Int) := by omega
  have hr : bothF s ((F : Int), (T : Int), p) ((G : Int), (H : Int), q) = ((((min F G : Nat) : Int), (to : Int), ((splF (splF s ((F : Int), (T : Int), p)) ((G : Int), (H : Int), q)).take en).drop (min F G)), 0) := by
    unfold bothF
    rw [if_neg (by omega), if_neg (by omega), e1, e2, hm, Int.toNat_natCast, Int.toNat_natCast]
  rw [hr]
  refine both_walk s p q (splF s ((F : Int), (T : Int), p)) (splF (splF s ((F : Int), (T : Int), p)) ((G : Int), (H : Int), q)) F T G H (min F G) to en ((F : Int) + (p.length : Int))
    (((splF s ((F : Int), (T : Int), p)).length : Int) - s.length) (((splF (splF s ((F : Int), (T : Int), p)) ((G : Int), (H : Int), q)).length : Int) - (splF s ((F : Int), (T : Int), p)).length)
    ((H : Int) - (((splF s ((F : Int), (T : Int), p)).length : Int) - s.length)) w ls lt lu lp lq ?_ ?_ ?_ ?_ ?_ (by omega) (by omega) (by omega) (by omega) (by omega) (by omega) rfl rfl ?_ ?_ k3 k4
  · intro W
    have := do_any s ((F : Int), (T : Int), p) W (by omega) (by show p.length ≤ _; omega)
    rw [doOut_yes h, h] at this; exact this
  · intro W
    have := do_any (splF s ((F : Int), (T : Int), p)) ((G : Int), (H : Int), q) W (by omega) (by show q.length ≤ _; omega)
    rw [doOut_yes h2, h2] at this; exact this
  · intro W; exact behind_any F T p s _ W (by omega) (by omega)
  · intro W; exact growth_any ((F : Int), (T : Int), p) s _ W (by omega) (by omega)
  · intro W; exact growth_any ((G : Int), (H : Int), q) _ _ W (by omega) (by omega)
  · rw [← e1]; rfl
  · rw [← e2, ← e1]; rfl

theorem both_any (s : List UInt8) (x y : Ed) (w : World) (hs : s.length ≤ 140737488355328) (hput : x.2.2.length ≤ 140737488355328) (hput2 : y.2.2.length ≤ 140737488355328) :
    Calls Tryd.prog 30 #[.string (mkS s), edV x, edV y] w fun e w' => e = .returned (.tuple #[edV (bothF s x y).1, .int .i64 (bothF s x y).2]) ∧ Below w.heap.size w w' := by
  by_cases h : doE s x = 0
  · by_cases h2 : doE (splF s x) y = 0
    · exact both_ok s x y w h h2
    · exact both_no2 s x y w hs hput hput2 h h2
  · exact both_no1 s x y w hs hput h

theorem bothF_ok {s : List UInt8} {x y : Ed} (h : doE s x = 0) (h2 : doE (splF s x) y = 0) :
    (bothF s x y).2 = 0 ∧ doE s (bothF s x y).1 = 0 ∧ splF s (bothF s x y).1 = splF (splF s x) y ∧ (bothF s x y).1.1 ≤ x.1 ∧ x.2.1 ≤ (bothF s x y).1.2.1 ∧ (bothF s x y).1.2.2.length ≤ 2500 := by
  have lu := chkE_len (doE_parts h2).2.2
  have cs := (doE_parts h).1
  have cu := (doE_parts h2).2.2
  obtain ⟨F, T, hx, h3, h4⟩ := isEd_nat (doE_isEd h)
  obtain ⟨F', T', p⟩ := x
  simp only [Prod.mk.injEq] at hx
  obtain ⟨rfl, rfl, _⟩ := hx
  obtain ⟨G, H, hy, h5, h6⟩ := isEd_nat (doE_isEd h2)
  obtain ⟨G', H', q⟩ := y
  simp only [Prod.mk.injEq] at hy
  obtain ⟨rfl, rfl, _⟩ := hy
  have hb : (bothF s ((F : Int), (T : Int), p) ((G : Int), (H : Int), q)).2 = 0 := by unfold bothF; rw [if_neg (by omega), if_neg (by omega)]
  obtain ⟨z1, z2, z3, z4, z5⟩ := both_spl s p q F T G H h3 h4 h5 h6 (bothF s ((F : Int), (T : Int), p) ((G : Int), (H : Int), q)).1 (by unfold bothF; rw [if_neg (by omega), if_neg (by omega)])
  exact ⟨hb, doE_of cs z1 (by rw [z2]; exact cu), z2, z3, z4, Nat.le_trans z5 lu⟩
end Go.Proofs.YthmhklmoodffcaaDoor
