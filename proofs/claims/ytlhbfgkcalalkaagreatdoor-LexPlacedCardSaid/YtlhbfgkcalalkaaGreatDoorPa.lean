/- The comments of a text, byte by byte; stretches in memory (no walk). -/
import Derived.Test.YtlhbfgkcalalkaaGreatDoorBa
import Derived.Test.YtlhbfgkcalalkaaGreatDoorFb
set_option linter.unusedVariables false
set_option linter.unusedSimpArgs false
namespace Go.Proofs.YtlhbfgkcalalkaaGreatDoor
open Go.RowKit

/-- The comments of a text that begins at a place, and where the comment begins that goes on there. -/
def comG : List UInt8 → Nat → Option Nat → List (Nat × Nat)
  | [], i, some f => [(f, i)]
  | [], _, none => []
  | c :: r, i, o => if c = 10 then (match o with | some f => [(f, i)] | none => []) ++ comG r (i + 1) none else if c = 37 ∧ o = none then comG r (i + 1) (some i) else comG r (i + 1) o

theorem comG_lines : ∀ (s : List UInt8) (b : Nat) (x : List UInt8) (xs : List (List UInt8)), splitNl s = x :: xs →
    comG s b none = comL b (x :: xs) ∧ ∀ f, comG s b (some f) = (f, b + x.length) :: comL (b + x.length + 1) xs
  | [], b, x, xs, h => by
    simp only [splitNl, List.cons.injEq] at h
    obtain ⟨rfl, rfl⟩ := h
    exact ⟨by simp only [comG, comL, Lib.indexByte]; rfl, fun f => by simp [comG, comL]⟩
  | c :: r, b, x, xs, h => by
    by_cases hc : c = 10
    · simp only [splitNl, if_pos hc, List.cons.injEq] at h
      obtain ⟨rfl, rfl⟩ := h
      obtain ⟨y, ys, hy⟩ : ∃ y ys, splitNl r = y :: ys := by
        cases hr : splitNl r with
        | nil => have := splitNl_off r; rw [hr] at this; simp [offL] at this
        | cons y ys => exact ⟨y, ys, rfl⟩
      have ih := comG_lines r (b + 1) y ys hy
      rw [hy]
      refine ⟨?_, fun f => ?_⟩
      · rw [comG, if_pos hc, ih.1]
        have e : comL b ([] :: y :: ys) = [] ++ comL (b + 0 + 1) (y :: ys) := by rw [comL]; rfl
        rw [e]
      · rw [comG, if_pos hc, ih.1]; simp
    · cases hr : splitNl r with
      | nil => have := splitNl_off r; rw [hr] at this; simp [offL] at this
      | cons y ys =>
        simp only [splitNl, if_neg hc, hr, List.cons.injEq] at h
        obtain ⟨rfl, rfl⟩ := h
        have ih := comG_lines r (b + 1) y ys hr
        have e1 : b + 1 + y.length = b + (y.length + 1) := by omega
        refine ⟨?_, fun f => ?_⟩
        · by_cases h37 : c = 37
          · rw [comG, if_neg hc, if_pos ⟨h37, rfl⟩, ih.2, comL]
            have e : Lib.indexByte (c :: y) 37 = ((0 : Nat) : Int) := by subst h37; simp [Lib.indexByte]
            rw [e, e1]
            simp only [List.length_cons]
            rfl
          · rw [comG, if_neg hc, if_neg (by simp [h37]), ih.1, comL, comL]
            have hge := Lib.indexByte_ge y 37
            have e2 : b + 1 + y.length + 1 = b + (c :: y).length + 1 := by simp; omega
            rw [e2]
            by_cases e : Lib.indexByte y 37 = -1
            · have : Lib.indexByte (c :: y) 37 = -1 := by simp [Lib.indexByte, h37, e]
              rw [this, e]; rfl
            · obtain ⟨o, ho⟩ : ∃ o : Nat, Lib.indexByte y 37 = (o : Int) := ⟨(Lib.indexByte y 37).toNat, by omega⟩
              have : Lib.indexByte (c :: y) 37 = ((o + 1 : Nat) : Int) := by simp only [Lib.indexByte]; simp [h37, e, ho]
              rw [this, ho]
              have e3 : b + 1 + o = b + (o + 1) := by omega
              have e4 : b + 1 + y.length = b + (c :: y).length := by simp; omega
              show [(b + 1 + o, b + 1 + y.length)] ++ _ = [(b + (o + 1), b + (c :: y).length)] ++ _
              rw [e3, e4]
        · rw [comG, if_neg hc, if_neg (by simp), ih.2, e1]; rfl
/-- The comments of a text. -/
def comF (s : List UInt8) : List (Nat × Nat) := comL 0 (splitNl s)
theorem comG_eq (s : List UInt8) : comG s 0 none = comF s := by
  unfold comF
  cases hr : splitNl s with
  | nil => have := splitNl_off s; rw [hr] at this; simp [offL] at this
  | cons y ys => exact (comG_lines s 0 y ys hr).1
theorem comG_length : ∀ (s : List UInt8) (i : Nat) (o : Option Nat), (comG s i o).length ≤ s.length + (if o = none then 0 else 1)
  | [], i, some f => by simp [comG]
  | [], i, none => by simp [comG]
  | c :: r, i, o => by
    by_cases h10 : c = 10
    · have := comG_length r (i + 1) none
      cases o with
      | none => rw [comG, if_pos h10]; simp at this ⊢; omega
      | some f => rw [comG, if_pos h10]; simp at this ⊢; omega
    · by_cases h : c = 37 ∧ o = none
      · have := comG_length r (i + 1) (some i)
        cases o with
        | none => rw [comG, if_neg h10, if_pos h]; simp at this ⊢; omega
        | some f => exact absurd h.2 (by simp)
      · have := comG_length r (i + 1) o
        cases o with
        | none => rw [comG, if_neg h10, if_neg h]; simp at this ⊢; omega
        | some f => rw [comG, if_neg h10, if_neg h]; simp at this ⊢; omega
theorem comF_length (s : List UInt8) : (comF s).length ≤ s.length := by
  rw [← comG_eq]; have := comG_length s 0 none; simpa using this

/-- Stretches in memory. -/
def stCells (x : Nat × Nat) : List Value := [.int .i64 x.1, .int .i64 x.2]
def rowS (ls : List (Nat × Nat)) : List Value := ls.flatMap stCells
theorem rowS_snoc (ls : List (Nat × Nat)) (x : Nat × Nat) : rowS (ls ++ [x]) = rowS ls ++ stCells x := by simp [rowS]
theorem stCells_one (x : Nat × Nat) : ∀ u ∈ stCells x, u.oneCell' = true := by simp [stCells, Value.oneCell']
theorem rowS_get (ls : List (Nat × Nat)) (i : Nat) (hi : i < ls.length) :
    (rowS ls)[2 * i]? = some (.int .i64 ls[i].1) ∧ (rowS ls)[2 * i + 1]? = some (.int .i64 ls[i].2) := by
  induction ls generalizing i with
  | nil => simp at hi
  | cons x ls ih =>
    cases i with
    | zero => exact ⟨rfl, rfl⟩
    | succ i =>
      have := ih i (by simpa using hi)
      have e : rowS (x :: ls) = stCells x ++ rowS ls := by simp [rowS]
      have e3 : (stCells x).length = 2 := rfl
      rw [e, List.getElem?_append_right (by rw [e3]; omega), List.getElem?_append_right (by rw [e3]; omega), e3,
        show 2 * (i + 1) - 2 = 2 * i by omega, show 2 * (i + 1) + 1 - 2 = 2 * i + 1 by omega]
      simpa using this
/-- A slice of stretches reads as a list. -/
def ReadsSt (w : World) (v : Value) (ls : List (Nat × Nat)) : Prop :=
  ∃ (p : Option Addr) (cap : Nat), v = .slice p ls.length cap ∧ ls.length ≤ 100000000000 ∧
    (ls.length = 0 ∨ ∃ b off, p = some ⟨b, off, none⟩ ∧ ∀ i (h : i < ls.length), w.cell? ⟨b, off + i * 2, none⟩ = some (.int .i64 ls[i].1) ∧ w.cell? ⟨b, off + i * 2 + 1, none⟩ = some (.int .i64 ls[i].2))
theorem readsS_own {w : World} {base : Nat} {v : Value} {ls : List (Nat × Nat)} (h : w.ownsRow base 99 2 v ls.length (rowS ls)) (hl : ls.length ≤ 100000000000) : ReadsSt w v ls := by
  rcases h.2 with ⟨h1, h0⟩ | ⟨g, cap, cur, rfl, hg, hgg, hcap, hmax, hsz, htake⟩
  · exact ⟨none, 0, by rw [h1, h0], hl, .inl h0⟩
  · refine ⟨_, cap, rfl, hl, .inr ⟨g, 0, rfl, fun i hi => ?_⟩⟩
    have hc : ∀ j u, (rowS ls)[j]? = some u → w.cell? ⟨g, j, none⟩ = some u := fun j u hu => by
      have := h.cells (g := g) rfl j u hu
      have hadd : (⟨g, 0, none⟩ : Addr).add j = ⟨g, j, none⟩ := by unfold Addr.add; split <;> simp_all
      rw [hadd] at this; exact this
    obtain ⟨a1, a2⟩ := rowS_get ls i hi
    rw [Nat.zero_add, Nat.mul_comm i 2]
    exact ⟨hc _ _ a1, hc _ _ a2⟩
theorem ReadsSt.below {w w' : World} {v : Value} {ls : List (Nat × Nat)} (h : ReadsSt w v ls) (hb : Below w.heap.size w w') : ReadsSt w' v ls := by
  obtain ⟨p, cap, rfl, hl, h0⟩ := h
  refine ⟨p, cap, rfl, hl, ?_⟩
  rcases h0 with h0 | ⟨b, off, rfl, hc⟩
  · exact .inl h0
  · refine .inr ⟨b, off, rfl, fun i hi => ?_⟩
    obtain ⟨a1, a2⟩ := hc i hi
    exact ⟨(hb.cell (cell_lt a1)).trans a1, (hb.cell (cell_lt a2)).trans a2⟩
theorem cells_new2 (W : World) (x : Nat × Nat) (T n : Nat) (hn : n = W.heap.size) : ∀ (j : Nat) (u : Value), (stCells x)[j]? = some u → (W.alloc (.cells #[.int .i64 x.1, .int .i64 x.2] T)).cell? ((⟨n, 0, none⟩ : Addr).add j) = some u := by
  intro j u h
  subst hn
  have hadd : (⟨W.heap.size, 0, none⟩ : Addr).add j = ⟨W.heap.size, j, none⟩ := by unfold Addr.add; split <;> simp_all
  rw [hadd, World.cell?_alloc_at _ _ _ _ rfl]
  rw [← h]; simp [stCells]

theorem infoS : (Tryz.prog.info? 99).map (fun i => (i.zero, i.size, i.bytes)) = some (some (.agg #[.int .i64 0, .int .i64 0]), 2, 16) := by kernel_rfl
end Go.Proofs.YtlhbfgkcalalkaaGreatDoor
