/- Contracts of the loops over a text: textError, Check. -/
import Derived.Test.YtlhbfgkcalalkaaDoorWa
set_option linter.unusedVariables false
set_option linter.unusedSimpArgs false
namespace Go.Proofs.YtlhbfgkcalalkaaDoor
open Go.RowKit

theorem ret_int2 {k m : IntKind} {a b c d : Int} (h : a = c) (h' : b = d) : Ending.returned (.tuple #[.int k a, .int m b]) = .returned (.tuple #[.int k c, .int m d]) := by rw [h, h']

/-- The place of the first wrong byte. -/
def bad (l : List UInt8) : Nat := l.findIdx (fun c => decide (cls c.toNat = 0))
theorem bad_none (l : List UInt8) (h : ∀ j (hj : j < l.length), cls (l[j].toNat) ≠ 0) : bad l = l.length := by
  unfold bad
  exact List.findIdx_eq_length.2 (fun x hx => by obtain ⟨j, hj, rfl⟩ := List.mem_iff_getElem.1 hx; simpa using h j hj)
theorem bad_at (l : List UInt8) (k : Nat) (hk : k < l.length) (h : ∀ j (hj : j < k), cls (l[j].toNat) ≠ 0) (h0 : cls (l[k].toNat) = 0) : bad l = k := by
  unfold bad
  rw [List.findIdx_eq hk]
  exact ⟨by simpa using h0, fun j hj => by simpa using h j hj⟩
/-- The error of a text: its place and its code. -/
def chkAt (l : List UInt8) : Nat := if 2500 < l.length then 0 else if bad l < l.length then bad l else 0
def chkE (l : List UInt8) : Nat := if 2500 < l.length then 5 else if bad l < l.length then 4 else 0

set_option maxHeartbeats 400000 in
theorem textError_any (s : ByteArray) (w : World) (hs : s.size ≤ maxLen) :
    Calls Tryd.prog 18 #[.string s] w fun e w' => e = .returned (.tuple #[.int .i64 (chkAt s.data.toList), .int .i64 (chkE s.data.toList)]) ∧ w = w' := by
  unfold maxLen at hs
  go_enter Tryd.func18, Tryd.ntmps18
  by_cases hlen : 2500 < s.size
  · have e1 : chkAt s.data.toList = 0 := by unfold chkAt; rw [if_pos (by simpa using hlen)]
    have e2 : chkE s.data.toList = 5 := by unfold chkE; rw [if_pos (by simpa using hlen)]
    have E1 := Lib.hid e1; have E2 := Lib.hid e2; clear e1 e2
    go_wp2
    go_ret2
    exact ⟨ret_int2 (by rw [E1.out]; rfl) (by rw [E2.out]; rfl), rfl⟩
  · go_wp2
    go_loop [10] (fun i => ∃ k : Nat, k ≤ s.size ∧ i = .int .i64 k ∧ Hid (∀ j (hj : j < k) (hj' : j < s.data.toList.length), cls (s.data.toList[j].toNat) ≠ 0)) (fun i => s.size - (intOf i).toNat)
    case atStart => exact ⟨0, Nat.zero_le _, rfl, fun j hj => by omega⟩
    case round =>
      obtain ⟨k, hk, rfl, hpre⟩ := hrel
      by_cases hlt : k < s.size
      · by_cases hc : cls (s[k].toNat) = 0
        · have e1 : chkAt s.data.toList = k := by
            unfold chkAt; rw [if_neg (by simpa using hlen), bad_at s.data.toList k (by simpa using hlt) (fun j hj => hpre.out j hj _) hc, if_pos (by simpa using hlt)]
          have e2 : chkE s.data.toList = 4 := by
            unfold chkE; rw [if_neg (by simpa using hlen), bad_at s.data.toList k (by simpa using hlt) (fun j hj => hpre.out j hj _) hc, if_pos (by simpa using hlt)]
          have E1 := Lib.hid e1; have E2 := Lib.hid e2; clear e1 e2
          have hb : ((cls (s[k].toNat) : Int) == 0) = true := by rw [hc]; rfl
          have HC := Lib.hid hc; clear hc
          go_wp2_with (go_at_call 40; refine (classOf_any _ _).mono ?_; rintro e w' ⟨rfl, rfl⟩)
          go_ret2
          exact ⟨ret_int2 (by rw [E1.out]) (by rw [E2.out]; rfl), rfl⟩
        · have hb : ((cls (s[k].toNat) : Int) == 0) = false := by simpa using hc
          have H' : Hid (∀ j (hj : j < k + 1) (hj' : j < s.data.toList.length), cls (s.data.toList[j].toNat) ≠ 0) := fun j hj hj' => by
            by_cases e : j = k
            · subst e; exact hc
            · exact hpre.out j (by omega) hj'
          clear hc
          go_wp2_with (go_at_call 40; refine (classOf_any _ _).mono ?_; rintro e w' ⟨rfl, rfl⟩)
          go_round
          case rel => exact ⟨k + 1, by omega, by go_num, H'⟩
          case measure => simp [intOf]; omega
      · have hb : bad s.data.toList = s.data.toList.length := bad_none _ (fun j hj => hpre.out j (by have : s.data.toList.length = s.size := by simp
                                                                                                     omega) hj)
        have e1 : chkAt s.data.toList = 0 := by unfold chkAt; rw [if_neg (by simpa using hlen), hb, if_neg (by omega)]
        have e2 : chkE s.data.toList = 0 := by unfold chkE; rw [if_neg (by simpa using hlen), hb, if_neg (by omega)]
        have E1 := Lib.hid e1; have E2 := Lib.hid e2; clear e1 e2 hb
        go_wp2
        go_ret2
        exact ⟨ret_int2 (by rw [E1.out]; rfl) (by rw [E2.out]; rfl), rfl⟩
end Go.Proofs.YtlhbfgkcalalkaaDoor
