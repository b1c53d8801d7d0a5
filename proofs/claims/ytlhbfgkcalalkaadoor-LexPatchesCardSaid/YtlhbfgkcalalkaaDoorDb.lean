/- The contracts of Diff's two comparisons. -/
import Derived.Test.YtlhbfgkcalalkaaDoorDa
import Derived.Test.YtlhbfgkcalalkaaDoorWf
set_option linter.unusedVariables false
set_option linter.unusedSimpArgs false
namespace Go.Proofs.YtlhbfgkcalalkaaDoor
open Go.RowKit Go.Shelf

theorem bcell' {W w1 : World} (hb : Below W.heap.size W w1) : (∀ b o, b < W.heap.size → w1.cell? ⟨b, o, none⟩ = W.cell? ⟨b, o, none⟩) ∧ (∀ b o, b < W.heap.size → w1.frozen? ⟨b, o, none⟩ = W.frozen? ⟨b, o, none⟩) :=
  ⟨fun b o h => hb.cell (p := ⟨b, o, none⟩) h, fun b o h => hb.frozen (p := ⟨b, o, none⟩) h⟩
theorem below_drewN (w : World) (n : Nat) : Below w.heap.size w (w.drewN n) := ⟨rfl, rfl, rfl, Nat.le_refl _, fun _ _ => rfl⟩
def eqAt (a b : List UInt8) (i : Nat) : Bool := a.getD i 0 == b.getD i 0
def eqBack (a b : List UInt8) (i : Nat) : Bool := a.getD (a.length - 1 - i) 0 == b.getD (b.length - 1 - i) 0

theorem byte_beq (x y : UInt8) : (((x.toNat : Int)) == ((y.toNat : Int))) = (x == y) := by
  rw [Bool.eq_iff_iff, beq_iff_eq, beq_iff_eq]
  exact ⟨fun h => UInt8.toNat_inj.1 (by omega), fun h => by rw [h]⟩
theorem mkS_getD (a : List UInt8) (i : Nat) (h : i < (mkS a).size) : (mkS a)[i] = a.getD i 0 := by
  have h' : i < a.length := by rw [mkS_size] at h; exact h
  show (mkS a).data[i] = _
  simp [mkS, List.getD_eq_getElem?_getD, h']

set_option maxRecDepth 100000 in
set_option maxHeartbeats 800000 in
theorem diff1 (a b : List UInt8) (ba bb : Nat) (i : Nat) (w : World) (ha : i < a.length) (hb : i < b.length) (hm : a.length ≤ 281474976710656) (hm2 : b.length ≤ 281474976710656)
    (ca : w.cell? ⟨ba, 0, none⟩ = some (.string (mkS a))) (cb : w.cell? ⟨bb, 0, none⟩ = some (.string (mkS b))) :
    Calls Tryd.prog 32 #[.int .i64 i, .pointer (some ⟨ba, 0, none⟩), .pointer (some ⟨bb, 0, none⟩)] w fun e W' => e = .returned (.bool (eqAt a b i)) ∧ Below w.heap.size w W' := by
  have ha' : i < (mkS a).size := by rw [mkS_size]; exact ha
  have hb' : i < (mkS b).size := by rw [mkS_size]; exact hb
  have hfin : Hid (((((mkS a)[i].toNat : Nat) : Int) == (((mkS b)[i].toNat : Nat) : Int)) = eqAt a b i) := by
    show _ = _; rw [byte_beq, mkS_getD, mkS_getD]; rfl
  clear ha hb
  go_enter Tryd.func32, Tryd.ntmps32
  go_wp2
  go_quiet (fail)
  go_wp2
  go_ret
  exact ⟨ret_bool hfin.out, below_drewN _ _⟩

set_option maxRecDepth 100000 in
set_option maxHeartbeats 800000 in
theorem diff2 (a b : List UInt8) (ba bb : Nat) (i : Nat) (w : World) (ha : i < a.length) (hb : i < b.length) (hm : a.length ≤ 281474976710656) (hm2 : b.length ≤ 281474976710656)
    (ca : w.cell? ⟨ba, 0, none⟩ = some (.string (mkS a))) (cb : w.cell? ⟨bb, 0, none⟩ = some (.string (mkS b))) :
    Calls Tryd.prog 33 #[.int .i64 i, .pointer (some ⟨ba, 0, none⟩), .pointer (some ⟨bb, 0, none⟩)] w fun e W' => e = .returned (.bool (eqBack a b i)) ∧ Below w.heap.size w W' := by
  have ha' : i < (mkS a).size := by rw [mkS_size]; exact ha
  have hb' : i < (mkS b).size := by rw [mkS_size]; exact hb
  have hm' : (mkS a).size ≤ 281474976710656 := by rw [mkS_size]; exact hm
  have hm2' : (mkS b).size ≤ 281474976710656 := by rw [mkS_size]; exact hm2
  obtain ⟨x, hx⟩ : ∃ x : Nat, x = (mkS a).size - 1 - i := ⟨_, rfl⟩
  obtain ⟨y, hy⟩ : ∃ y : Nat, y = (mkS b).size - 1 - i := ⟨_, rfl⟩
  have hxl : x < (mkS a).size := by omega
  have hyl : y < (mkS b).size := by omega
  have ex0 : IntKind.i64.wrap (((mkS a).size : Int) - 1) = ((mkS a).size : Int) - 1 := IntWalk.i64_in _ (by omega)
  have ex1 : IntKind.i64.wrap (((mkS a).size : Int) - 1 - (i : Int)) = (x : Int) := by
    rw [IntWalk.i64_in _ (by omega)]; omega
  have ey0 : IntKind.i64.wrap (((mkS b).size : Int) - 1) = ((mkS b).size : Int) - 1 := IntWalk.i64_in _ (by omega)
  have ey1 : IntKind.i64.wrap (((mkS b).size : Int) - 1 - (i : Int)) = (y : Int) := by
    rw [IntWalk.i64_in _ (by omega)]; omega
  have hfin : Hid (((((mkS a)[x].toNat : Nat) : Int) == (((mkS b)[y].toNat : Nat) : Int)) = eqBack a b i) := by
    show _ = _; rw [byte_beq, mkS_getD, mkS_getD, hx, hy, mkS_size, mkS_size]; rfl
  clear ha hb hx hy
  go_enter Tryd.func33, Tryd.ntmps33
  go_wp2
  go_quiet (fail)
  go_wp2
  go_ret
  exact ⟨ret_bool hfin.out, below_drewN _ _⟩
end Go.Proofs.YtlhbfgkcalalkaaDoor
