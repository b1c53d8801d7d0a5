/- The contract of Join. -/
import Derived.Test.YtlhbfgkcalalkaaDoorJb
import Derived.Test.YtlhbfgkcalalkaaDoorShelf
import Derived.Deep.RegionHeld3
set_option linter.unusedVariables false
set_option linter.unusedSimpArgs false
namespace Go.Proofs.YtlhbfgkcalalkaaDoor
open Go.RowKit Go.Shelf

def txt (ls : List Lx) (i : Nat) : List UInt8 := (ls.getD i (0, [], 0)).2.1
/-- What Join has written after k tokens. -/
def joinUpto (ls : List Lx) : Nat → List UInt8
  | 0 => []
  | k + 1 => joinUpto ls k ++ ((if 0 < k && !partsF (txt ls (k - 1)) (txt ls k) then [32] else []) ++ txt ls k)
def joinT (ls : List Lx) : List UInt8 := joinUpto ls ls.length
/-- What Join comes to. -/
def joinF (ls : List Lx) : List UInt8 × Nat :=
  if 900 < ls.length then ([], 5) else if ls.all rightF then (if 2500 < (joinT ls).length then ([], 5) else (joinT ls, 0)) else ([], 4)
theorem joinUpto_len (ls : List Lx) (hl : ∀ i, (txt ls i).length ≤ 100000) : ∀ k, (joinUpto ls k).length ≤ k * 100001
  | 0 => by simp [joinUpto]
  | k + 1 => by
    have := joinUpto_len ls hl k
    have h2 := hl k
    rw [joinUpto, List.length_append, List.length_append]
    split
    · simp; omega
    · simp; omega
theorem txt_len (ls : List Lx) (h : ∀ y ∈ ls, y.2.1.length ≤ 100000) (i : Nat) : (txt ls i).length ≤ 100000 := by
  unfold txt
  by_cases hi : i < ls.length
  · rw [show ls.getD i (0, [], 0) = ls[i] by simp [List.getD_eq_getElem?_getD, hi]]
    exact h _ (List.getElem_mem _)
  · rw [show ls.getD i (0, [], 0) = (0, [], 0) by simp [List.getD_eq_getElem?_getD, Nat.not_lt.1 hi]]
    simp
abbrev IsB (B : Nat) (l : List UInt8) (w : World) : Prop := Lib.IsBuilder 66 5 B B (Lib.byteCells l) w
theorem isB_below {B : Nat} {l : List UInt8} {w w' : World} (h : IsB B l w) (hb : Below w.heap.size w w') : IsB B l w' := by
  have key : ∀ p, Lib.BuilderAt 66 5 B B p (Lib.byteCells l) w → Lib.BuilderAt 66 5 B B p (Lib.byteCells l) w' := fun p h => by
    have hlt := h.lt
    obtain ⟨h1, v, h2, h3, h4⟩ := h
    exact ⟨h1, v, (hb.block B hlt).trans h2, ownsRow_below h3 hb, h4⟩
  rcases h with h | h
  · exact .inl (key _ h)
  · exact .inr (key _ h)
theorem byteCells_app (a b : List UInt8) : Lib.byteCells a ++ Lib.byteCells b = Lib.byteCells (a ++ b) := by simp [Lib.byteCells]
theorem byteCells_sp (a : List UInt8) : Lib.byteCells a ++ [.int .u8 32] = Lib.byteCells (a ++ [32]) := by simp [Lib.byteCells]

/-- The writes, at a builder of its own number. -/
theorem wByte (B : Nat) (l : List UInt8) (w : World) (h : IsB B l w) (hlen : l.length ≤ 1000000000) :
    Calls Tryd.prog 27 #[.pointer (some ⟨B, 0, none⟩), .int .u8 32] w fun e w' => e = .returned .nilIface ∧ IsB B (l ++ [32]) w' ∧ Below B w w' ∧ Frm B w w' := by
  have hB : B ≤ w.heap.size := by rcases h with h | h <;> exact Nat.le_of_lt h.lt
  refine (writeByte_any B B (Lib.byteCells l) 32 w h (by simp [Lib.byteCells]; omega) hB).mono ?_
  rintro e w' ⟨he, h1, h2⟩
  rw [byteCells_sp] at h1
  exact ⟨he, .inr h1, h2⟩
theorem wStr (B : Nat) (l t : List UInt8) (w : World) (h : IsB B l w) (hlen : l.length ≤ 2000000000) (ht : t.length ≤ 1000000000) :
    Calls Tryd.prog 28 #[.pointer (some ⟨B, 0, none⟩), .string (mkS t)] w fun e w' => e = .returned (.tuple #[.int .i64 (mkS t).size, .nilIface]) ∧ IsB B (l ++ t) w' ∧ Below B w w' ∧ Frm B w w' := by
  have hB : B ≤ w.heap.size := by rcases h with h | h <;> exact Nat.le_of_lt h.lt
  refine (writeString_any B B (Lib.byteCells l) (mkS t) w h (by rw [mkS_size]; simp [Lib.byteCells]; omega) hB).mono ?_
  rintro e w' ⟨he, h1, h2⟩
  rw [show Lib.byteCells l ++ Lib.strCells (mkS t) = Lib.byteCells (l ++ t) from byteCells_app l t] at h1
  exact ⟨he, .inr h1, h2⟩

set_option maxRecDepth 100000 in
set_option maxHeartbeats 2000000 in
theorem join_long (v : Value) (ls : List Lx) (w : World) (hv : ReadsLx w v ls) (h : 900 < ls.length) :
    Calls Tryd.prog 11 #[v] w fun e w' => e = .returned (.tuple #[.string (mkS (joinF ls).1), .int .i64 (joinF ls).2]) ∧ Below w.heap.size w w' := by
  have HR : Hid (joinF ls = ([], 5)) := by show _ = _; unfold joinF; rw [if_pos h]
  obtain ⟨p, cap, rfl, hl, j2⟩ := hv
  obtain ⟨n, hn⟩ : ∃ n, n = ls.length := ⟨_, rfl⟩
  rw [← hn] at h ⊢
  clear j2 hl hn
  go_enter Tryd.func11, Tryd.ntmps11
  go_wp2
  go_ret2
  exact ⟨by rw [HR.out]; rfl, Below.refl _ _⟩

set_option maxRecDepth 100000 in
set_option maxHeartbeats 2000000 in
theorem join_form (v : Value) (ls : List Lx) (w : World) (hv : ReadsLx w v ls) (he : ErrOk w) (hy : ∀ y ∈ ls, y.2.1.length ≤ 100000) (h : ¬ 900 < ls.length) (h2 : ls.all rightF = false) :
    Calls Tryd.prog 11 #[v] w fun e w' => e = .returned (.tuple #[.string (mkS (joinF ls).1), .int .i64 (joinF ls).2]) ∧ Below w.heap.size w w' := by
  have HR : Hid (joinF ls = ([], 4)) := by show _ = _; unfold joinF; rw [if_neg h, if_neg (by rw [h2]; decide)]
  have CE : Hid (∀ W gb, GramAt W gb → Below w.heap.size w W → Calls Tryd.prog 23 #[v, .func (.func 24) #[] #[.pointer (some ⟨gb, 0, none⟩)]] W fun e w' => e = .returned (.bool false) ∧ Below W.heap.size W w') := fun W gb hg hb => by
    have := every_calls v ls 24 #[.pointer (some ⟨gb, 0, none⟩)] rightF W (hv.below hb) (enters_of Tryd.func24 (by kernel_rfl) rfl)
      (fun x V hx hV => join1 x gb V (by have := hy x hx; omega) (hg.below hV) ((he.below hb).below hV))
    rw [h2] at this; exact this
  obtain ⟨p, cap, rfl, hl, j2⟩ := hv
  obtain ⟨n, hn⟩ : ∃ n, n = ls.length := ⟨_, rfl⟩
  rw [← hn] at h CE ⊢
  clear j2 hl hn hy he h2
  go_enter Tryd.func11, Tryd.ntmps11
  go_wp2_with fail
  refine (newGrammar_any _).mono ?_
  rintro e w1 ⟨g, rfl, hg, hb⟩
  obtain ⟨mb, sb, rfl, hm, hc⟩ := hg
  have HGA : Hid (GramAt (w1.alloc (.cells #[.map (some mb), .slice (some ⟨sb, 0, none⟩) 22 22] 52)) w1.heap.size) :=
    ⟨_, _, Gram.below ⟨mb, sb, rfl, hm, hc⟩ ((Below.refl _ _).alloc (Nat.le_refl _) _), by simp [go_sem], by simp [go_sem]⟩
  have Hb := Lib.hid hb
  clear hm hc
  go_wp2_with fail
  refine (CE.out _ _ HGA.out (hb.alloc hb.size _)).mono ?_
  rintro e w2 ⟨rfl, hb2⟩
  go_wp2
  go_ret2
  exact ⟨by rw [HR.out]; rfl, (hb.alloc hb.size _).trans (hb2.mono (by simp; have := hb.size; omega))⟩
end Go.Proofs.YtlhbfgkcalalkaaDoor
