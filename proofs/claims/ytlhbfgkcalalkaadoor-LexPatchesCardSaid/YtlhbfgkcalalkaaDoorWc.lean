/- Contracts of the loops that pass over bytes: past, slices.Index, slices.Contains, Run, Check. -/
import Derived.Test.YtlhbfgkcalalkaaDoorWb
set_option linter.unusedVariables false
set_option linter.unusedSimpArgs false
namespace Go.Proofs.YtlhbfgkcalalkaaDoor
open Go.RowKit

/-! Plain words. -/
/-- The first place, from a place on, at which a byte is not of a kind. -/
def pst (p : UInt8 → Bool) (l : List UInt8) (at_ : Nat) : Nat := at_ + ((l.drop at_).takeWhile p).length
theorem pst_stop (p : UInt8 → Bool) (l : List UInt8) (k : Nat) (hk : k < l.length) (h : p l[k] = false) : pst p l k = k := by
  unfold pst; rw [List.drop_eq_getElem_cons hk, List.takeWhile_cons, h]; simp
theorem pst_go (p : UInt8 → Bool) (l : List UInt8) (k : Nat) (hk : k < l.length) (h : p l[k] = true) : pst p l k = pst p l (k + 1) := by
  unfold pst; rw [List.drop_eq_getElem_cons hk, List.takeWhile_cons, h]; simp; omega
theorem pst_end (p : UInt8 → Bool) (l : List UInt8) (k : Nat) (hk : l.length ≤ k) : pst p l k = k := by
  unfold pst; rw [List.drop_of_length_le hk]; simp
theorem pst_le (p : UInt8 → Bool) (l : List UInt8) (k : Nat) (hk : k ≤ l.length) : pst p l k ≤ l.length := by
  unfold pst; have := (List.takeWhile_prefix p (l := l.drop k)).length_le; simp at this; omega
theorem pst_ge (p : UInt8 → Bool) (l : List UInt8) (k : Nat) : k ≤ pst p l k := by unfold pst; omega

/-- A slice of classes in memory. -/
def Classes (w : World) (v : Value) (zs : List Nat) : Prop :=
  ∃ b cap, v = .slice (some ⟨b, 0, none⟩) zs.length cap ∧ zs.length ≤ 100 ∧ ∀ k, k < zs.length → w.cell? ⟨b, k, none⟩ = some (.int .u8 (zs.getD k 0))

set_option maxHeartbeats 400000 in
theorem slicesIndex_yes (b cap : Nat) (zs : List Nat) (v : Nat) (w : World) (hl : zs.length ≤ 100)
    (hc : ∀ k, k < zs.length → w.cell? ⟨b, k, none⟩ = some (.int .u8 (zs.getD k 0))) (j : Nat) (hj : j < zs.length) (hjv : zs.getD j 0 = v) (hjn : ∀ i, i < j → zs.getD i 0 ≠ v) :
    Calls Tryd.prog 55 #[.slice (some ⟨b, 0, none⟩) zs.length cap, .int .u8 v] w fun e w' => e = .returned (.int .i64 j) ∧ w = w' := by
  go_enter Tryd.func55, Tryd.ntmps55
  have HJ := Lib.hid hjv; have HN := Lib.hid hjn; have HC := Lib.hid hc; clear hjv hjn hc
  go_wp2
  go_loop [8] (fun i => ∃ k : Nat, k ≤ j ∧ i = .int .i64 k) (fun i => zs.length - (intOf i).toNat)
  case atStart => exact ⟨0, Nat.zero_le _, rfl⟩
  case round =>
    obtain ⟨k, hk, rfl⟩ := hrel
    have hlt : k < zs.length := by omega
    obtain ⟨z, hcell, hz⟩ : ∃ z : Nat, w.cell? ⟨b, k, none⟩ = some (.int .u8 z) ∧ z = zs.getD k 0 := ⟨_, HC.out k hlt, rfl⟩
    have HZ := Lib.hid hz; clear hz
    by_cases e : k = j
    · have ht : ((v : Int) == (z : Int)) = true := by rw [HZ.out, e, HJ.out]; simp
      have HE := Lib.hid e; clear e
      go_wp2
      go_ret
      exact ⟨ret_int (by rw [HE.out]), rfl⟩
    · have ht : ((v : Int) == (z : Int)) = false := by have := HN.out k (by omega); rw [HZ.out]; rw [beq_eq_false_iff_ne]; omega
      go_wp2
      go_round
      case rel => exact ⟨k + 1, by omega, by go_num⟩
      case measure => simp [intOf]; omega

set_option maxHeartbeats 400000 in
theorem slicesIndex_no (b cap : Nat) (zs : List Nat) (v : Nat) (w : World) (hl : zs.length ≤ 100)
    (hc : ∀ k, k < zs.length → w.cell? ⟨b, k, none⟩ = some (.int .u8 (zs.getD k 0))) (hjn : ∀ i, i < zs.length → zs.getD i 0 ≠ v) :
    Calls Tryd.prog 55 #[.slice (some ⟨b, 0, none⟩) zs.length cap, .int .u8 v] w fun e w' => e = .returned (.int .i64 (-1)) ∧ w = w' := by
  go_enter Tryd.func55, Tryd.ntmps55
  have HN := Lib.hid hjn; have HC := Lib.hid hc; clear hjn hc
  go_wp2
  go_loop [8] (fun i => ∃ k : Nat, k ≤ zs.length ∧ i = .int .i64 k) (fun i => zs.length - (intOf i).toNat)
  case atStart => exact ⟨0, Nat.zero_le _, rfl⟩
  case round =>
    obtain ⟨k, hk, rfl⟩ := hrel
    by_cases hlt : k < zs.length
    · obtain ⟨z, hcell, hz⟩ : ∃ z : Nat, w.cell? ⟨b, k, none⟩ = some (.int .u8 z) ∧ z = zs.getD k 0 := ⟨_, HC.out k hlt, rfl⟩
      have HZ := Lib.hid hz; clear hz
      have ht : ((v : Int) == (z : Int)) = false := by have := HN.out k (by omega); rw [HZ.out]; rw [beq_eq_false_iff_ne]; omega
      go_wp2
      go_round
      case rel => exact ⟨k + 1, by omega, by go_num⟩
      case measure => simp [intOf]; omega
    · go_wp2
      go_ret
      exact ⟨rfl, rfl⟩

set_option maxHeartbeats 400000 in
theorem contains_any (zs : List Nat) (sv : Value) (v : Nat) (w : World) (h : Classes w sv zs) :
    Calls Tryd.prog 44 #[sv, .int .u8 v] w fun e w' => e = .returned (.bool (decide (v ∈ zs))) ∧ w = w' := by
  obtain ⟨b, cap, rfl, hl, hc⟩ := h
  by_cases hm : v ∈ zs
  · obtain ⟨j, hj, hjv, hjn⟩ : ∃ j, j < zs.length ∧ zs.getD j 0 = v ∧ ∀ i, i < j → zs.getD i 0 ≠ v := by
      have hx : zs.findIdx (· == v) < zs.length := List.findIdx_lt_length_of_exists ⟨v, hm, by simp⟩
      refine ⟨_, hx, ?_, fun i hi => ?_⟩
      · have := List.findIdx_getElem (w := hx); simpa [List.getD_eq_getElem?_getD, List.getElem?_eq_getElem hx] using this
      · have := List.not_of_lt_findIdx hi; simpa [List.getD_eq_getElem?_getD, List.getElem?_eq_getElem (Nat.lt_trans hi hx)] using this
    have C := Lib.hid (slicesIndex_yes b cap zs v w hl hc j hj hjv hjn)
    have HM := Lib.hid hm
    clear hc hjv hjn hm
    go_enter Tryd.func44, Tryd.ntmps44
    go_wp2_with (go_at_call 55; refine (C.out).mono ?_; rintro e w' ⟨rfl, rfl⟩)
    go_ret
    exact ⟨ret_bool (by simp [HM.out]), rfl⟩
  · have hjn : ∀ i, i < zs.length → zs.getD i 0 ≠ v := fun i hi e => hm (by rw [← e, List.getD_eq_getElem?_getD, List.getElem?_eq_getElem hi]; simp)
    have C := Lib.hid (slicesIndex_no b cap zs v w hl hc hjn)
    have HM := Lib.hid hm
    clear hc hjn hm
    go_enter Tryd.func44, Tryd.ntmps44
    go_wp2_with (go_at_call 55; refine (C.out).mono ?_; rintro e w' ⟨rfl, rfl⟩)
    go_ret
    exact ⟨ret_bool (by simp [HM.out]), rfl⟩

/-- A byte of one of some classes. -/
def ofCls (zs : List Nat) (c : UInt8) : Bool := decide (cls c.toNat ∈ zs)

set_option maxHeartbeats 400000 in
theorem past_any (s : ByteArray) (at_ : Nat) (zs : List Nat) (sv : Value) (w : World) (hs : s.size ≤ maxLen) (ha : at_ ≤ s.size) (h : Classes w sv zs) :
    Calls Tryd.prog 21 #[.string s, .int .i64 at_, sv] w fun e w' => e = .returned (.int .i64 (pst (ofCls zs) s.data.toList at_)) ∧ w = w' := by
  unfold maxLen at hs
  have HH := Lib.hid h
  clear h
  go_enter Tryd.func21, Tryd.ntmps21
  go_wp2
  go_loop [1] (fun i => ∃ k : Nat, k ≤ s.size ∧ i = .int .i64 k ∧ Hid (pst (ofCls zs) s.data.toList k = pst (ofCls zs) s.data.toList at_)) (fun i => s.size - (intOf i).toNat)
  case atStart => exact ⟨at_, ha, rfl, rfl⟩
  case round =>
    obtain ⟨k, hk, rfl, hpre⟩ := hrel
    by_cases hlt : k < s.size
    · have hl : k < s.data.toList.length := by simpa using hlt
      by_cases hc : ofCls zs s[k] = true
      · have hb : cls (s[k].toNat) ∈ zs := by simpa [ofCls] using hc
        have H' : Hid (pst (ofCls zs) s.data.toList (k + 1) = pst (ofCls zs) s.data.toList at_) := by
          show _ = _; rw [← hpre.out, pst_go _ _ k hl hc]
        clear hc
        go_wp2_with (first | (go_at_call 40; refine (classOf_any _ _).mono ?_; rintro e w' ⟨rfl, rfl⟩) | (go_at_call 44; refine (contains_any zs _ _ _ HH.out).mono ?_; rintro e w' ⟨rfl, rfl⟩))
        go_round
        case rel => exact ⟨k + 1, by omega, by go_num, H'⟩
        case measure => simp [intOf]; omega
      · have hb : cls (s[k].toNat) ∉ zs := by simpa [ofCls] using hc
        have H' : Hid (pst (ofCls zs) s.data.toList at_ = k) := by
          show _ = _; rw [← hpre.out, pst_stop _ _ k hl ((Bool.not_eq_true _).mp hc)]
        clear hc
        go_wp2_with (first | (go_at_call 40; refine (classOf_any _ _).mono ?_; rintro e w' ⟨rfl, rfl⟩) | (go_at_call 44; refine (contains_any zs _ _ _ HH.out).mono ?_; rintro e w' ⟨rfl, rfl⟩))
        go_ret
        exact ⟨ret_int (by rw [H'.out]), rfl⟩
    · have H' : Hid (pst (ofCls zs) s.data.toList at_ = k) := by
        show _ = _; rw [← hpre.out, pst_end _ _ k (by simpa using hlt)]
      go_wp2
      go_ret
      exact ⟨ret_int (by rw [H'.out]), rfl⟩
end Go.Proofs.YtlhbfgkcalalkaaDoor
