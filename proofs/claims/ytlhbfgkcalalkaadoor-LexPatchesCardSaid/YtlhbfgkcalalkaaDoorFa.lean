/- Tokens in memory, read; SameTokens; slices.Clone; Apply. -/
import Derived.Test.YtlhbfgkcalalkaaDoorSb
set_option linter.unusedVariables false
set_option linter.unusedSimpArgs false
namespace Go.Proofs.YtlhbfgkcalalkaaDoor
open Go.RowKit

/-- A slice of tokens reads as a list. -/
def ReadsLx (w : World) (v : Value) (ls : List Lx) : Prop :=
  ∃ (p : Option Addr) (cap : Nat), v = .slice p ls.length cap ∧ ls.length ≤ 100000000000 ∧
    (ls.length = 0 ∨ ∃ b off, p = some ⟨b, off, none⟩ ∧ ∀ i (h : i < ls.length), w.cell? ⟨b, off + i * 3, none⟩ = some (.int .u8 ls[i].1) ∧ w.cell? ⟨b, off + i * 3 + 1, none⟩ = some (.string (mkS ls[i].2.1)) ∧ w.cell? ⟨b, off + i * 3 + 2, none⟩ = some (.int .i64 ls[i].2.2))

theorem reads_own {w : World} {base : Nat} {v : Value} {ls : List Lx} (h : w.ownsRow base 36 3 v ls.length (rowCells ls)) (hl : ls.length ≤ 100000000000) : ReadsLx w v ls := by
  rcases h.2 with ⟨h1, h0⟩ | ⟨g, cap, cur, rfl, hg, hgg, hcap, hmax, hsz, htake⟩
  · exact ⟨none, 0, by rw [h1, h0], hl, .inl h0⟩
  · refine ⟨_, cap, rfl, hl, .inr ⟨g, 0, rfl, fun i hi => ?_⟩⟩
    have hc : ∀ j u, (rowCells ls)[j]? = some u → w.cell? ⟨g, j, none⟩ = some u := fun j u hu => by
      have := h.cells (g := g) rfl j u hu
      have hadd : (⟨g, 0, none⟩ : Addr).add j = ⟨g, j, none⟩ := by unfold Addr.add; split <;> simp_all
      rw [hadd] at this; exact this
    obtain ⟨a1, a2, a3⟩ := rowCells_get ls i hi
    rw [Nat.zero_add, Nat.mul_comm i 3]
    exact ⟨hc _ _ a1, hc _ _ a2, hc _ _ a3⟩
theorem ReadsLx.below {w w' : World} {v : Value} {ls : List Lx} (h : ReadsLx w v ls) (hb : Below w.heap.size w w') : ReadsLx w' v ls := by
  obtain ⟨p, cap, rfl, hl, h0⟩ := h
  refine ⟨p, cap, rfl, hl, ?_⟩
  rcases h0 with h0 | ⟨b, off, rfl, hc⟩
  · exact .inl h0
  · refine .inr ⟨b, off, rfl, fun i hi => ?_⟩
    obtain ⟨a1, a2, a3⟩ := hc i hi
    exact ⟨(hb.cell (cell_lt a1)).trans a1, (hb.cell (cell_lt a2)).trans a2, (hb.cell (cell_lt a3)).trans a3⟩

theorem mkS_tl {a b : List UInt8} : ((mkS a).toList = (mkS b).toList) ↔ a = b := by
  rw [ByteArray.toList_eq, ByteArray.toList_eq]
  constructor
  · intro h; have : (mkS a).data.toList = (mkS b).data.toList := h
    simpa [mkS] using this
  · intro h; rw [h]
theorem run_neq_lx (w : World) (k k' : Nat) (s s' : List UInt8) (a a' : Int) :
    (binOp .neq 36 (.agg #[.int .u8 k, .string (mkS s), .int .i64 a]) (.agg #[.int .u8 k', .string (mkS s'), .int .i64 a'])).run Tryd.prog w = .ok (.bool (((k, s, a) : Lx) != (k', s', a'))) w := by
  have h1 : ((k : Int) = (k' : Int)) ↔ k = k' := by omega
  simp only [go_sem, mkS_tl]
  by_cases c1 : k = k'
  · by_cases c2 : s = s'
    · by_cases c3 : a = a'
      · subst c1 c2 c3; simp [go_sem]
      · subst c1 c2; simp [go_sem, c3]
    · subst c1; simp [go_sem, c2, mkS_tl]
  · simp [go_sem, c1, h1]
theorem run_eql_lx (w : World) (k k' : Nat) (s s' : List UInt8) (a a' : Int) :
    (binOp .eql 36 (.agg #[.int .u8 k, .string (mkS s), .int .i64 a]) (.agg #[.int .u8 k', .string (mkS s'), .int .i64 a'])).run Tryd.prog w = .ok (.bool (((k, s, a) : Lx) == (k', s', a'))) w := by
  have h1 : ((k : Int) = (k' : Int)) ↔ k = k' := by omega
  simp only [go_sem, mkS_tl]
  by_cases c1 : k = k'
  · by_cases c2 : s = s'
    · by_cases c3 : a = a'
      · subst c1 c2 c3; simp [go_sem]
      · subst c1 c2; simp [go_sem, c3]
    · subst c1; simp [go_sem, c2, mkS_tl]
  · simp [go_sem, c1, h1]
end Go.Proofs.YtlhbfgkcalalkaaDoor
