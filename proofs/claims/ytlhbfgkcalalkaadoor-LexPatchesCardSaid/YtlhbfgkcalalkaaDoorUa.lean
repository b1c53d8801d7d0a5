/- An edit that is taken back (no walk). -/
import Derived.Test.YtlhbfgkcalalkaaDoorLb
set_option linter.unusedVariables false
set_option linter.unusedSimpArgs false
namespace Go.Proofs.YtlhbfgkcalalkaaDoor
open Go.RowKit

theorem doE_parts {s : List UInt8} {x : Ed} (h : doE s x = 0) : chkE s = 0 ∧ isEd s x = true ∧ chkE (splF s x) = 0 := by
  have h2 := doE_isEd h
  unfold doE at h
  split at h
  · omega
  · rename_i h1
    exact ⟨by omega, h2, h⟩
theorem doE_of {s : List UInt8} {x : Ed} (h1 : chkE s = 0) (h2 : isEd s x = true) (h3 : chkE (splF s x) = 0) : doE s x = 0 := by
  unfold doE; rw [if_neg (by omega), if_pos h2]; exact h3
theorem chkE_len {s : List UInt8} (h : chkE s = 0) : s.length ≤ 2500 := by
  unfold chkE at h
  split at h
  · simp at h
  · omega

theorem undo_spl {s : List UInt8} {x : Ed} (h : doE s x = 0) :
    doE (splF s x) (undoF s x) = 0 ∧ splF (splF s x) (undoF s x) = s ∧ undoF (splF s x) (undoF s x) = x := by
  obtain ⟨c1, c2, c3⟩ := doE_parts h
  obtain ⟨F, T, hx, h1, h2⟩ := isEd_nat c2
  obtain ⟨F', T', put⟩ := x
  simp only [Prod.mk.injEq] at hx
  obtain ⟨rfl, rfl, _⟩ := hx
  have hu : undoF s ((F : Int), (T : Int), put) = ((F : Int), (F : Int) + (put.length : Int), (s.take T).drop F) := by unfold undoF; rw [if_pos h]; rfl
  have hs : splF s ((F : Int), (T : Int), put) = s.take F ++ put ++ s.drop T := rfl
  have hz : splF (s.take F ++ put ++ s.drop T) ((F : Int), (F : Int) + (put.length : Int), (s.take T).drop F) = s := by
    have hF : (s.take F).length = F := by simp; omega
    show (s.take F ++ put ++ s.drop T).take ((F : Int)).toNat ++ (s.take T).drop F ++ (s.take F ++ put ++ s.drop T).drop ((F : Int) + (put.length : Int)).toNat = s
    have e1 : ((F : Int)).toNat = F := by omega
    have e2 : ((F : Int) + (put.length : Int)).toNat = F + put.length := by omega
    have a1 : (s.take F ++ put ++ s.drop T).take F = s.take F := by rw [List.append_assoc, List.take_left' hF]
    have a2 : (s.take F ++ put ++ s.drop T).drop (F + put.length) = s.drop T := List.drop_left' (by simp; omega)
    rw [e1, e2, a1, a2]
    have e3 : s.take F = (s.take T).take F := by rw [List.take_take]; congr 1; omega
    rw [e3, List.take_append_drop, List.take_append_drop]
  have hed : isEd (s.take F ++ put ++ s.drop T) ((F : Int), (F : Int) + (put.length : Int), (s.take T).drop F) = true := by
    simp only [isEd, Bool.and_eq_true, decide_eq_true_eq]
    refine ⟨⟨by omega, by omega⟩, ?_⟩
    simp; omega
  have hd : doE (s.take F ++ put ++ s.drop T) ((F : Int), (F : Int) + (put.length : Int), (s.take T).drop F) = 0 :=
    doE_of (by rw [← hs]; exact c3) hed (by rw [hz]; exact c1)
  rw [hu, hs]
  refine ⟨hd, hz, ?_⟩
  unfold undoF
  rw [if_pos hd]
  have hF : (s.take F).length = F := by simp; omega
  have e1 : ((F : Int)).toNat = F := by omega
  have e2 : ((F : Int) + (put.length : Int)).toNat = F + put.length := by omega
  simp only [e1, e2]
  have e4 : (((s.take F ++ put ++ s.drop T).take (F + put.length)).drop F) = put := by
    rw [List.take_left' (by simp; omega), List.drop_left' hF]
  rw [e4]
  simp; omega
end Go.Proofs.YtlhbfgkcalalkaaDoor
