/- The contracts of Kind, every at tokens, and Join's closure. -/
import Derived.Test.YtlhbfgkcalalkaaDoorGa
set_option linter.unusedVariables false
set_option linter.unusedSimpArgs false
namespace Go.Proofs.YtlhbfgkcalalkaaDoor
open Go.RowKit Go.WideMaps Go.Maps Go.Shelf

/-- A token as a value. -/
def lxV (x : Lx) : Value := .agg #[.int .u8 x.1, .string (mkS x.2.1), .int .i64 x.2.2]

set_option maxRecDepth 100000 in
set_option maxHeartbeats 2000000 in
theorem every_calls (v : Value) (ls : List Lx) (g : Nat) (lb : Array Value) (p : Lx → Bool) (w : World) (hv : ReadsLx w v ls) (eg : ∀ args w, (callFunc g args).run Tryd.prog w = .ok (.enter g args) w)
    (hp : ∀ (x : Lx) (W : World), x ∈ ls → Below w.heap.size w W → Calls Tryd.prog g (#[lxV x] ++ lb) W fun e W' => e = .returned (.bool (p x)) ∧ Below W.heap.size W W') :
    Calls Tryd.prog 23 #[v, .func (.func g) #[] lb] w fun e w' => e = .returned (.bool (ls.all p)) ∧ Below w.heap.size w w' := by
  have HP := Lib.hid hp
  clear hp
  obtain ⟨q, cap, rfl, hl, hv⟩ := hv
  obtain ⟨n, hn⟩ : ∃ n, n = ls.length := ⟨_, rfl⟩
  rw [← hn] at hl ⊢
  have HV := Lib.hid hv; have HN := Lib.hid hn
  clear hv hn
  go_enter Tryd.func23, Tryd.ntmps23
  go_wp2
  go_loopw [9] (fun i wr => ∃ k : Nat, k ≤ n ∧ i = .int .i64 k ∧ Hid ((ls.drop k).all p = ls.all p) ∧ Below w.heap.size w wr) (fun i _ => n - (intOf i).toNat)
  case atStart => exact ⟨0, Nat.zero_le _, rfl, rfl, Below.refl _ _⟩
  case round =>
    obtain ⟨k, hk, rfl, hr, hb⟩ := hrel
    by_cases hlt : k < n
    · have hla : k < ls.length := by have := HN.out; omega
      have hv := HV.out
      rcases hv with hv | ⟨b, off, rfl, hv⟩
      · have := HN.out; omega
      obtain ⟨a1, a2, a3⟩ := hv k hla
      obtain ⟨hc, hf⟩ := bcell' hb
      rw [← hc _ _ (cell_lt a1)] at a1; rw [← hc _ _ (cell_lt a2)] at a2; rw [← hc _ _ (cell_lt a3)] at a3
      have hstep := hr.out
      rw [List.drop_eq_getElem_cons hla, List.all_cons] at hstep
      obtain ⟨x, hx⟩ : ∃ x, x = ls[k] := ⟨_, rfl⟩
      have hmem : x ∈ ls := by rw [hx]; exact List.getElem_mem _
      rw [← hx] at a1 a2 a3 hstep
      have C : Hid (∀ W, Below w.heap.size w W → Calls Tryd.prog g (#[.agg #[.int .u8 x.1, .string (mkS x.2.1), .int .i64 x.2.2]] ++ lb) W fun e W' => e = .returned (.bool (p x)) ∧ Below W.heap.size W W') := fun W hW => HP.out x W hmem hW
      obtain ⟨wn, hwn⟩ : ∃ wn, wn = (wr.alloc (.cells #[.int .u8 x.1, .string (mkS x.2.1), .int .i64 x.2.2] 36)) := ⟨_, rfl⟩
      have hbn : Below w.heap.size w wn := by rw [hwn]; exact hb.alloc hb.size _
      cases hpk : p x with
      | true =>
        rw [hpk] at hstep C
        have HS : Hid ((ls.drop (k + 1)).all p = ls.all p) := by show _ = _; rw [← hstep]; rfl
        have HBN := Lib.hid hbn; have HWN := Lib.hid hwn
        clear hstep hpk hr hx hv hc hf hbn hwn
        go_wp2_with fail
        refine (C.out _ (hb.alloc hb.size _)).mono ?_
        rintro e w1 ⟨rfl, hb1⟩
        have hbb : Below w.heap.size w w1 := (hb.alloc hb.size _).trans (hb1.mono (by simp; have := hb.size; omega))
        clear hb1
        go_wp2
        go_roundw
        case rel => exact ⟨k + 1, by omega, by go_num, HS, hbb⟩
        case measure => simp [intOf]; omega
      | false =>
        rw [hpk] at hstep C
        have HS : Hid (ls.all p = false) := by show _ = _; rw [← hstep]; rfl
        clear hstep hpk hr hx hv hc hf hbn hwn
        go_wp2_with fail
        refine (C.out _ (hb.alloc hb.size _)).mono ?_
        rintro e w1 ⟨rfl, hb1⟩
        have hbb : Below w.heap.size w w1 := (hb.alloc hb.size _).trans (hb1.mono (by simp; have := hb.size; omega))
        clear hb1
        go_wp2
        go_ret
        exact ⟨ret_bool HS.out.symm, hbb⟩
    · have HS : Hid (ls.all p = true) := by
        show _ = _; rw [← hr.out, List.drop_of_length_le (by have := HN.out; omega)]; rfl
      clear hr
      go_wp2
      go_ret
      exact ⟨ret_bool HS.out.symm, hb⟩

/-- A grammar in a variable of its own. -/
def GramAt (w : World) (gb : Nat) : Prop := ∃ m s, Gram w (.agg #[m, s]) ∧ w.cell? ⟨gb, 0, none⟩ = some m ∧ w.cell? ⟨gb, 1, none⟩ = some s
theorem GramAt.below {w w' : World} {gb : Nat} (h : GramAt w gb) (hb : Below w.heap.size w w') : GramAt w' gb := by
  obtain ⟨m, s, hg, h0, h1⟩ := h
  exact ⟨m, s, hg.below hb, (hb.cell (cell_lt h0)).trans h0, (hb.cell (cell_lt h1)).trans h1⟩
/-- What Join asks of a token. -/
def rightF (x : Lx) : Bool := kindR x.2.1 == some x.1

set_option maxRecDepth 100000 in
set_option maxHeartbeats 2000000 in
theorem join1 (x : Lx) (gb : Nat) (w : World) (hs : x.2.1.length ≤ 281474976710656) (hg : GramAt w gb) (he : ErrOk w) :
    Calls Tryd.prog 24 #[lxV x, .pointer (some ⟨gb, 0, none⟩)] w fun e w' => e = .returned (.bool (rightF x)) ∧ Below w.heap.size w w' := by
  obtain ⟨kk, t, at_⟩ := x
  have CK : Hid (∀ g W, Gram W g → Below w.heap.size w W → Calls Tryd.prog 25 #[g, .string (mkS t)] W fun e w' => e = .returned (.tuple #[.int .u8 ((kindR t).getD 0), .bool (kindR t).isSome]) ∧ Below W.heap.size W w') := fun g W hg hb => kind_any g t W hs hg (he.below hb)
  obtain ⟨m, s, hG, h0, h1⟩ := hg
  have HR : Hid (rightF (kk, t, at_) = (kindR t == some kk)) := rfl
  obtain ⟨k, hk⟩ : ∃ k, k = kindR t := ⟨_, rfl⟩
  rw [← hk] at CK HR
  unfold lxV
  clear he hk hs
  have HG := Lib.hid hG
  clear hG
  have hl0 := cell_lt h0
  cases k with
  | none =>
    simp only [Option.isSome_none, Option.getD_none] at CK
    go_enter Tryd.func24, Tryd.ntmps24
    go_wp2_with fail
    refine (CK.out _ _ (HG.out.below ((Below.refl _ _).alloc (Nat.le_refl _) _)) ((Below.refl _ _).alloc (Nat.le_refl _) _)).mono ?_
    rintro e w2 ⟨rfl, hb2⟩
    have hfin : Below w.heap.size w w2 := ((Below.refl _ _).alloc (Nat.le_refl _) _).trans (hb2.mono (by simp))
    clear hb2
    go_wp2
    go_ret
    exact ⟨ret_bool (by rw [HR.out]; rfl), hfin⟩
  | some k1 =>
    simp only [Option.isSome_some, Option.getD_some] at CK
    have hkb : ((k1 : Int) == (kk : Int)) = ((some k1 : Option Nat) == some kk) := by
      rw [Bool.eq_iff_iff, beq_iff_eq, beq_iff_eq, Option.some.injEq]; omega
    have HKB := Lib.hid hkb; clear hkb
    go_enter Tryd.func24, Tryd.ntmps24
    go_wp2_with fail
    refine (CK.out _ _ (HG.out.below ((Below.refl _ _).alloc (Nat.le_refl _) _)) ((Below.refl _ _).alloc (Nat.le_refl _) _)).mono ?_
    rintro e w2 ⟨rfl, hb2⟩
    have e0 : w2.cell? ⟨w.heap.size, 0, none⟩ = some (.int .u8 kk) := by rw [hb2.cell (by simp)]; simp [go_sem]
    have hfin : Below w.heap.size w w2 := ((Below.refl _ _).alloc (Nat.le_refl _) _).trans (hb2.mono (by simp))
    clear hb2
    go_wp2
    go_ret
    exact ⟨ret_bool (by rw [HR.out, ← HKB.out]), hfin⟩
end Go.Proofs.YtlhbfgkcalalkaaDoor
