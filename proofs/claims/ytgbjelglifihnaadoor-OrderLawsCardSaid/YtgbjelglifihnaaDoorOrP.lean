/- Contracts of ascends and formed. -/
import Derived.Test.YtgbjelglifihnaaDoorOrO
set_option linter.unusedVariables false
set_option linter.unusedSimpArgs false
namespace Go.Proofs.YtgbjelglifihnaaDoor.Or
open Go.RowKit

def lastA (a : Int) (l : List Int) (k : Nat) : Int := (a :: l).getD k 0
def ascP (n a : Int) (l : List Int) (k : Nat) : Bool := decide (lastA a l k < l.getD k 0) && decide (l.getD k 0 < n)
theorem asc_range (n : Int) : ∀ (l : List Int) (a : Int), (List.range l.length).all (ascP n a l) = ascF n a l
  | [], _ => rfl
  | x :: r, a => by
    rw [List.length_cons, List.range_succ_eq_map, List.all_cons, List.all_map, ascF, ← asc_range n r x]
    rfl

set_option maxRecDepth 100000 in
set_option maxHeartbeats 2000000 in
theorem ascends1 (x last n : Int) (bl bn : Nat) (w : World) (hl : w.cell? ⟨bl, 0, none⟩ = some (.int .i64 last)) (hf : w.frozen? ⟨bl, 0, none⟩ = false) (hn : w.cell? ⟨bn, 0, none⟩ = some (.int .i64 n)) :
    Calls Tryd.prog 136 #[.int .i64 x, .pointer (some ⟨bl, 0, none⟩), .pointer (some ⟨bn, 0, none⟩)] w fun e w' => e = .returned (.bool (decide (last < x) && decide (x < n))) ∧ w' = w.setCell ⟨bl, 0, none⟩ (.int .i64 x) := by
  by_cases h1 : last < x
  · by_cases h2 : x < n
    · have g1 : decide (last < x) = true := decide_eq_true h1
      have g2 : decide (x < n) = true := decide_eq_true h2
      go_enter Tryd.func136, Tryd.ntmps136
      go_wp2
      go_ret
      exact ⟨ret_bool (by simp [h1, h2]), rfl⟩
    · have g1 : decide (last < x) = true := decide_eq_true h1
      have g2 : decide (x < n) = false := decide_eq_false h2
      go_enter Tryd.func136, Tryd.ntmps136
      go_wp2
      go_ret
      exact ⟨ret_bool (by simp [h1, h2]), rfl⟩
  · have g1 : decide (last < x) = false := decide_eq_false h1
    go_enter Tryd.func136, Tryd.ntmps136
    go_wp2
    go_ret
    exact ⟨ret_bool (by simp [h1]), rfl⟩

/-- What lies in memory between two elements. -/
def AscJ (w : World) (a n : Int) (l : List Int) (bl bn : Nat) (k : Nat) (W : World) : Prop :=
  Below w.heap.size w W ∧ W.cell? ⟨bl, 0, none⟩ = some (.int .i64 (lastA a l k)) ∧ W.frozen? ⟨bl, 0, none⟩ = false ∧ W.cell? ⟨bn, 0, none⟩ = some (.int .i64 n)


set_option maxRecDepth 100000 in
set_option maxHeartbeats 2000000 in
theorem ascends_any (v : Value) (l : List Int) (n : Int) (w : World) (hv : RdI w v l) :
    Calls Tryd.prog 107 #[v, .int .i64 n] w fun e w' => e = .returned (.bool (ascF n (-1) l)) ∧ Below w.heap.size w w' := by
  obtain ⟨W2, hW2⟩ : ∃ W2, W2 = ((w.alloc (.cells #[.int .i64 n] 3)).alloc (.cells #[.int .i64 (-1)] 3)) := ⟨_, rfl⟩
  have hb2 : Below w.heap.size w W2 := by rw [hW2]; exact ((Below.refl _ _).alloc (Nat.le_refl _) _).alloc (by simp) _
  have cn : W2.cell? ⟨w.heap.size, 0, none⟩ = some (.int .i64 n) := by rw [hW2]; simp [go_sem]
  have cl : W2.cell? ⟨w.heap.size + 1, 0, none⟩ = some (.int .i64 (-1)) := by rw [hW2]; simp [go_sem]
  have fl : W2.frozen? ⟨w.heap.size + 1, 0, none⟩ = false := by rw [hW2]; simp [go_sem]
  have hlen : (l.map (Value.int .i64)).length = l.length := by simp
  have C := everyI_st v (l.map (Value.int .i64)) 136 #[.pointer (some ⟨w.heap.size + 1, 0, none⟩), .pointer (some ⟨w.heap.size, 0, none⟩)] (ascP n (-1) l)
    (AscJ w (-1) n l (w.heap.size + 1) w.heap.size) W2 (fun args w => rfl) (fun k W h => Rd.below hv h.1) ⟨hb2, cl, fl, cn⟩ (fun k W hk h => by
      obtain ⟨j1, j2, j3, j4⟩ := h
      have hk' : k < l.length := by simpa using hk
      have hx : (l.map (Value.int .i64))[k] = .int .i64 (l.getD k 0) := by simp [List.getD_eq_getElem?_getD, hk']
      rw [hx]
      refine (ascends1 (l.getD k 0) (lastA (-1) l k) n _ _ W j2 j3 j4).mono ?_
      rintro e w' ⟨rfl, rfl⟩
      refine ⟨rfl, j1.setCell (by simp) _, ?_, ?_, ?_⟩
      · rw [World.cell?_setCell_same' _ _ _ (by rw [j2]; rfl)]; simp [lastA]
      · rw [World.frozen?_setCell]; exact j3
      · exact (World.cell?_of_block (w := W) (Below.heap_setCell _ _ _ _ (by simp))).trans j4)
  rw [hlen, asc_range] at C
  obtain ⟨p, cap, rfl⟩ := hv.form
  have HC := Lib.hid C; have HW := Lib.hid hW2
  clear hv C hW2 hb2 cn cl fl hlen
  go_enter Tryd.func107, Tryd.ntmps107
  go_wp2_with fail
  rw [← HW.out]
  refine HC.out.mono ?_
  rintro e w' ⟨rfl, k, hj⟩
  have hb := hj.1
  clear hj
  go_wp2
  go_ret
  exact ⟨rfl, hb⟩
end Go.Proofs.YtgbjelglifihnaaDoor.Or
