/- The reference's Token, where a sign must stand. -/
import Derived.Test.YtlhbfgkcalalkaaGreatDoorQl
set_option linter.unusedVariables false
set_option linter.unusedSimpArgs false
namespace Go.Proofs.YtlhbfgkcalalkaaGreatDoor
open Go.RowKit Go.Shelf

def sgK (acc : List UInt8) : Nat := if acc = [] then 0 else 4
/-- What the loop over the signs keeps in memory. -/
def SgJ (w wr : World) (at_ : Nat) (acc : List UInt8) : Prop :=
  wr.cell? ⟨w.heap.size + 1, 0, none⟩ = some (.int .u8 (sgK acc)) ∧ wr.cell? ⟨w.heap.size + 1, 1, none⟩ = some (.string (mkS acc)) ∧ wr.cell? ⟨w.heap.size + 1, 2, none⟩ = some (.int .i64 at_) ∧
  wr.frozen? ⟨w.heap.size + 1, 0, none⟩ = false ∧ wr.frozen? ⟨w.heap.size + 1, 1, none⟩ = false ∧
  (∀ j, j < 22 → wr.cell? ⟨w.heap.size + 1 + 1, j, none⟩ = some (.string (mkS (signsL.getD j [])))) ∧
  wr.cell? ⟨w.heap.size, 0, none⟩ = some (.int .u8 0) ∧ wr.cell? ⟨w.heap.size, 1, none⟩ = some (.string ⟨#[]⟩) ∧ wr.cell? ⟨w.heap.size, 2, none⟩ = some (.int .i64 0) ∧
  wr.frozen? ⟨w.heap.size, 0, none⟩ = false ∧ wr.frozen? ⟨w.heap.size, 1, none⟩ = false ∧ wr.frozen? ⟨w.heap.size, 2, none⟩ = false ∧
  w.heap.size + 1 + 1 < wr.heap.size ∧ Below w.heap.size w wr
theorem SgJ.drew {w wr : World} {at_ : Nat} {acc : List UInt8} (h : SgJ w wr at_ acc) (n : Nat) : SgJ w (wr.drewN n) at_ acc := by
  obtain ⟨a1, a2, a3, a4, a5, a6, a7, a8, a9, a10, a11, a12, a13, a14⟩ := h
  exact ⟨a1, a2, a3, a4, a5, a6, a7, a8, a9, a10, a11, a12, a13, a14.trans (below_drewAt _ _ _)⟩
theorem SgJ.put {w wr : World} {at_ : Nat} {acc : List UInt8} (h : SgJ w wr at_ acc) (t : List UInt8) (ht : t ≠ []) :
    SgJ w ((wr.setCell ⟨w.heap.size + 1, 0, none⟩ (.int .u8 4)).setCell ⟨w.heap.size + 1, 1, none⟩ (.string (mkS t))) at_ t := by
  obtain ⟨a1, a2, a3, a4, a5, a6, a7, a8, a9, a10, a11, a12, a13, a14⟩ := h
  have hk : sgK t = 4 := by unfold sgK; rw [if_neg ht]
  have d2 : (⟨w.heap.size + 1, 1, none⟩ : Addr) ≠ ⟨w.heap.size + 1, 0, none⟩ := by intro h; have := congrArg Addr.off h; simp at this
  refine ⟨?_, ?_, ?_, by simpa [go_sem] using a4, by simpa [go_sem] using a5, ?_, ?_, ?_, ?_, by simpa [go_sem] using a10, by simpa [go_sem] using a11, by simpa [go_sem] using a12, by simpa [go_sem] using a13, (a14.setCell (by simp) _).setCell (by simp) _⟩
  · rw [World.cell?_setCell_other (h := d2), World.cell?_setCell_same (h := a1), hk]; rfl
  · rw [World.cell?_setCell_same (h := by rw [World.cell?_setCell_other (h := Ne.symm d2)]; exact a2)]
  · rw [World.cell?_setCell_other (h := by intro h; have := congrArg Addr.off h; simp at this), World.cell?_setCell_other (h := by intro h; have := congrArg Addr.off h; simp at this)]; exact a3
  · intro j hj
    rw [World.cell?_setCell_other (h := by intro h; have := congrArg Addr.block h; simp at this), World.cell?_setCell_other (h := by intro h; have := congrArg Addr.block h; simp at this)]; exact a6 j hj
  · rw [World.cell?_setCell_other (h := by intro h; have := congrArg Addr.block h; simp at this), World.cell?_setCell_other (h := by intro h; have := congrArg Addr.block h; simp at this)]; exact a7
  · rw [World.cell?_setCell_other (h := by intro h; have := congrArg Addr.block h; simp at this), World.cell?_setCell_other (h := by intro h; have := congrArg Addr.block h; simp at this)]; exact a8
  · rw [World.cell?_setCell_other (h := by intro h; have := congrArg Addr.block h; simp at this), World.cell?_setCell_other (h := by intro h; have := congrArg Addr.block h; simp at this)]; exact a9

theorem prefix_ext (s : ByteArray) (at_ : Nat) (t : List UInt8) (h : at_ + t.length ≤ s.size) : ((s.extract at_ (at_ + (mkS t).size)).toList == (mkS t).toList) = Lib.hasPrefix (s.data.toList.drop at_) t := by
  rw [ByteArray.toList_eq, ByteArray.toList_eq, mkS_list, Lib.extract_data, mkS_size, Nat.add_sub_cancel_left]
  rw [Bool.eq_iff_iff, beq_iff_eq]
  simp only [Lib.hasPrefix, List.isPrefixOf_iff_prefix]
  constructor
  · intro e; rw [← e]; exact List.take_prefix _ _
  · intro e; exact (List.prefix_iff_eq_take.1 e).symm
theorem prefix_long (s : ByteArray) (at_ : Nat) (t : List UInt8) (h : ¬ at_ + t.length ≤ s.size) (ha : at_ ≤ s.size) : Lib.hasPrefix (s.data.toList.drop at_) t = false := by
  rw [← Bool.not_eq_true]
  simp only [Lib.hasPrefix, List.isPrefixOf_iff_prefix]
  intro e
  have := e.length_le
  simp at this; omega

set_option maxRecDepth 100000 in
set_option maxHeartbeats 8000000 in
theorem refToken_sign (s : ByteArray) (at_ : Nat) (w : World) (hs : s.size ≤ 100000) (ha : at_ < s.size) (hc2 : cls (s[at_].toNat) ≠ 2) (hc3 : cls (s[at_].toNat) ≠ 3) (X : List UInt8)
    (hX : bestL (s.data.toList.drop at_) signsL [] = X) :
    Calls Tryz.prog 32 #[.string s, .int .i64 at_] w fun e w' => e = .returned (.agg #[.int .u8 (sgK X), .string (mkS X), .int .i64 at_]) ∧ Below w.heap.size w w' := by
  have CL : Hid (∀ W, Calls Tryz.prog 62 #[.int .u8 (s[at_].toNat)] W fun e w' => e = .returned (.bool false) ∧ W = w') := fun W => by
    have := isLetter_any (s[at_].toNat) W
    rw [decide_eq_false hc2] at this; exact this
  have CD : Hid (∀ W, Calls Tryz.prog 65 #[.int .u8 (s[at_].toNat)] W fun e w' => e = .returned (.bool false) ∧ W = w') := fun W => by
    have := isDigit_any (s[at_].toNat) W
    rw [decide_eq_false hc3] at this; exact this
  have HX := Lib.hid hX
  clear hX hc2 hc3
  go_enter Tryz.func32, Tryz.ntmps32
  go_wp2_with fail
  refine (CL.out _).mono ?_
  rintro e w' ⟨rfl, rfl⟩
  go_wp2_with fail
  refine (CD.out _).mono ?_
  rintro e w' ⟨rfl, rfl⟩
  clear CL CD
  go_wp2_with fail
  refine (signs_any _).mono ?_
  rintro e w3 ⟨rfl, hw3⟩
  have J0 : Hid (SgJ w w3 at_ []) := by
    show SgJ w w3 at_ []
    rw [hw3]
    refine ⟨by simp [go_sem, sgK], by simp [go_sem, mkS], by simp [go_sem], by simp [go_sem], by simp [go_sem], ?_, by simp [go_sem], by simp [go_sem], by simp [go_sem], by simp [go_sem], by simp [go_sem], by simp [go_sem], by simp, (((Below.refl _ _).alloc (Nat.le_refl _) _).alloc (by simp) _).alloc (by simp; omega) _⟩
    intro j hj
    have := cell_strs ((w.alloc (.cells #[.int .u8 0, .string ⟨#[]⟩, .int .i64 0] 51)).alloc (.cells #[.int .u8 0, .string ⟨#[]⟩, .int .i64 at_] 51)) signsL 9 j hj
    simpa using this
  clear hw3
  go_wp2
  go_loopw [7] (fun c wr => ∃ (k : Nat) (acc : List UInt8), k ≤ 22 ∧ c = .int .i64 k ∧ Hid (bestL (s.data.toList.drop at_) (signsL.drop k) acc = X) ∧ Hid (SgJ w wr at_ acc)) (fun c _ => 22 - (intOf c).toNat)
  case atStart => exact ⟨0, [], Nat.zero_le _, rfl, HX, J0⟩
  case round =>
    obtain ⟨k, acc, hk, rfl, hr, hj⟩ := hrel
    have hj' := hj.out
    obtain ⟨a1, a2, a3, a4, a5, a6, a7, a8, a9, a10, a11, a12, a13, a14⟩ := hj'
    have hB0 : w.heap.size < wr.heap.size := by omega
    have hB1 : w.heap.size + 1 < wr.heap.size := by omega
    have A6 := Lib.hid a6
    have A14 := Lib.hid a14
    clear a6 a14 J0 HX
    by_cases hlt : k < 22
    · obtain ⟨t, ht⟩ : ∃ t, t = signsL.getD k [] := ⟨_, rfl⟩
      have hcell : wr.cell? ⟨w.heap.size + 1 + 1, k, none⟩ = some (.string (mkS t)) := by rw [ht]; exact A6.out k hlt
      have htn : t ≠ [] := by
        have : ∀ y ∈ signsL, y ≠ [] := by decide
        refine this t ?_
        rw [ht, List.getD_eq_getElem?_getD, List.getElem?_eq_getElem (show k < signsL.length from hlt)]
        exact List.getElem_mem _
      have htl : t.length ≤ 2 := by
        have : ∀ y ∈ signsL, y.length ≤ 2 := by decide
        refine this t ?_
        rw [ht, List.getD_eq_getElem?_getD, List.getElem?_eq_getElem (show k < signsL.length from hlt)]
        exact List.getElem_mem _
      have hstep := hr.out
      rw [bestL_drop _ k hlt, ← ht] at hstep
      have HS := Lib.hid hstep
      have HTN := Lib.hid htn
      have szt := mkS_size t
      have sza := mkS_size acc
      have hw0 : IntKind.i64.wrap ((at_ : Int) + ((mkS t).size : Int)) = (at_ : Int) + ((mkS t).size : Int) := IntWalk.i64_in _ (by omega)
      by_cases c1 : acc.length < t.length
      · have b1 : decide (((mkS acc).size : Int) < ((mkS t).size : Int)) = true := decide_eq_true (by omega)
        have b1' : (mkS acc).size < (mkS t).size := by omega
        by_cases c2 : at_ + t.length ≤ s.size
        · have b2 : decide ((at_ : Int) + ((mkS t).size : Int) ≤ (s.size : Int)) = true := decide_eq_true (by omega)
          have b2' : at_ + (mkS t).size ≤ s.size := by omega
          have hpe := prefix_ext s at_ t c2
          cases hp : Lib.hasPrefix (s.data.toList.drop at_) t with
          | true =>
            rw [hp] at hpe
            have HS2 : Hid (bestL (s.data.toList.drop at_) (signsL.drop (k + 1)) t = X) := by show _ = _; rw [← HS.out, if_pos ⟨c1, hp⟩]
            clear hstep ht hr c1 c2 hp htn szt sza HS
            go_wp2
            go_quiet (fail)
            go_wp2
            go_region
            go_wp2
            go_roundw
            case rel => exact ⟨k + 1, t, by omega, by go_num, HS2, (hj.out.drew _).put t HTN.out⟩
            case measure => simp [intOf]; omega
          | false =>
            rw [hp] at hpe
            have HS2 : Hid (bestL (s.data.toList.drop at_) (signsL.drop (k + 1)) acc = X) := by show _ = _; rw [← HS.out, if_neg (by rw [hp]; simp)]
            clear hstep ht hr c1 c2 hp htn szt sza HS
            go_wp2
            go_quiet (fail)
            go_wp2
            go_roundw
            case rel => exact ⟨k + 1, acc, by omega, by go_num, HS2, hj.out.drew _⟩
            case measure => simp [intOf]; omega
        · have b2 : decide ((at_ : Int) + ((mkS t).size : Int) ≤ (s.size : Int)) = false := decide_eq_false (by omega)
          have b2' : decide (at_ + (mkS t).size ≤ s.size) = false := decide_eq_false (by omega)
          have HS2 : Hid (bestL (s.data.toList.drop at_) (signsL.drop (k + 1)) acc = X) := by
            show _ = _; rw [← HS.out, if_neg (by rw [prefix_long s at_ t c2 (by omega)]; simp)]
          clear hstep ht hr c1 c2 htn szt sza HS
          go_wp2
          go_quiet (fail)
          go_wp2
          go_roundw
          case rel => exact ⟨k + 1, acc, by omega, by go_num, HS2, hj.out.drew _⟩
          case measure => simp [intOf]; omega
      · have b1 : decide (((mkS acc).size : Int) < ((mkS t).size : Int)) = false := decide_eq_false (by omega)
        have b1' : decide ((mkS acc).size < (mkS t).size) = false := decide_eq_false (by omega)
        have HS2 : Hid (bestL (s.data.toList.drop at_) (signsL.drop (k + 1)) acc = X) := by
          show _ = _; rw [← HS.out, if_neg (fun h => c1 h.1)]
        clear hstep ht hr c1 htn szt sza HS
        go_wp2
        go_quiet (fail)
        go_wp2
        go_roundw
        case rel => exact ⟨k + 1, acc, by omega, by go_num, HS2, hj.out.drew _⟩
        case measure => simp [intOf]; omega
    · have hstep := hr.out
      rw [show k = 22 by omega] at hstep
      have : acc = X := hstep
      subst this
      clear hstep hr
      go_wp2
      refine bodyPost_ret (v := .agg #[.int .u8 (sgK acc), .string (mkS acc), .int .i64 at_]) (by simp [results, Tryz.results32, go_sem, a1, a2, a3, a7, a8, a9, hB0]) rfl ⟨rfl, ?_⟩
      repeat (first | exact A14.out | refine Below.setCell ?_ (by simp <;> omega) _)

theorem refToken_any (s : ByteArray) (at_ : Nat) (w : World) (hs : s.size ≤ 100000) (ha : at_ < s.size) :
    Calls Tryz.prog 32 #[.string s, .int .i64 at_] w fun e w' => e = .returned (.agg #[.int .u8 ((tokR (s.data.toList.drop at_)).1.getD 0), .string (mkS (tokR (s.data.toList.drop at_)).2), .int .i64 at_]) ∧ Below w.heap.size w w' := by
  have hd : s.data.toList.drop at_ = s[at_] :: s.data.toList.drop (at_ + 1) := by
    rw [List.drop_eq_getElem_cons (show at_ < s.data.toList.length by simpa using ha)]; rfl
  by_cases h2 : cls (s[at_].toNat) = 2
  · have e : tokR (s.data.toList.drop at_) = (wordK ((s.data.toList.drop at_).takeWhile (ofCls [2, 3])), (s.data.toList.drop at_).takeWhile (ofCls [2, 3])) := by
      rw [hd]; unfold tokR; simp only [h2, if_true]
    rw [e]
    exact refToken_word s at_ w hs ha h2 _ _ rfl rfl
  · by_cases h3 : cls (s[at_].toNat) = 3
    · have e : tokR (s.data.toList.drop at_) = (numK ((s.data.toList.drop at_).takeWhile (ofCls [3])), (s.data.toList.drop at_).takeWhile (ofCls [3])) := by
        rw [hd]; unfold tokR; simp only [h2, h3, if_true, if_false]; rfl
      rw [e]
      exact refToken_number s at_ w hs ha h3 _ _ rfl rfl
    · have e : tokR (s.data.toList.drop at_) = (match signAt (s.data.toList.drop at_) with | some t => (some 4, t) | none => (none, [])) := by
        rw [hd]; unfold tokR; simp only [h2, h3, if_false]
        cases signAt (s[at_] :: List.drop (at_ + 1) s.data.toList) <;> rfl
      have := refToken_sign s at_ w hs ha h2 h3 _ (bestL_signs _)
      rw [e]
      cases hsg : signAt (s.data.toList.drop at_) with
      | none => rw [hsg] at this; exact this
      | some t =>
        rw [hsg] at this
        have htn : t ≠ [] := by
          have h : ∀ y ∈ signsL, y ≠ [] := by decide
          exact h t (List.mem_of_find?_eq_some hsg)
        have hk : sgK ((some t).getD []) = 4 := by unfold sgK; exact if_neg htn
        rw [hk] at this; exact this
end Go.Proofs.YtlhbfgkcalalkaaGreatDoor
