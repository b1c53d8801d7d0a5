/- The contracts of growth, behind, moved, and of head's comparison. -/
import Derived.Test.YtlhbfgkcalalkaaDoorGb
set_option linter.unusedVariables false
set_option linter.unusedSimpArgs false
namespace Go.Proofs.YtlhbfgkcalalkaaDoor
open Go.RowKit Go.Shelf

set_option maxRecDepth 100000 in
theorem growth_any (x : Ed) (s t : List UInt8) (w : World) (hs : s.length ≤ 1000000000000000) (ht : t.length ≤ 1000000000000000) :
    Calls Tryd.prog 51 #[doneV x s t] w fun e w' => e = .returned (.int .i64 ((t.length : Int) - (s.length : Int))) ∧ Below w.heap.size w w' := by
  have h1 : (mkS s).size = s.length := mkS_size s
  have h2 : (mkS t).size = t.length := mkS_size t
  have hw : IntKind.i64.wrap (((mkS t).size : Int) - ((mkS s).size : Int)) = ((t.length : Int) - (s.length : Int)) := by
    rw [h1, h2]; exact IntWalk.i64_in _ (by omega)
  have HW := Lib.hid hw
  unfold doneV
  clear h1 h2
  go_enter Tryd.func51, Tryd.ntmps51
  go_wp2
  go_ret
  exact ⟨ret_int rfl, (Below.refl _ _).alloc (Nat.le_refl _) _⟩

set_option maxRecDepth 100000 in
theorem moved_any (k : Nat) (t : List UInt8) (a b : Int) (w : World) (ha : -1000000000000000 ≤ a ∧ a ≤ 1000000000000000) (hb : -1000000000000000 ≤ b ∧ b ≤ 1000000000000000) :
    Calls Tryd.prog 16 #[.agg #[.int .u8 k, .string (mkS t), .int .i64 a], .int .i64 b] w fun e w' => e = .returned (.agg #[.int .u8 k, .string (mkS t), .int .i64 (a + b)]) ∧ Below w.heap.size w w' := by
  have hw : IntKind.i64.wrap (a + b) = a + b := IntWalk.i64_in _ (by omega)
  go_enter Tryd.func16, Tryd.ntmps16
  go_wp2
  refine bodyPost_ret (v := .agg #[.int .u8 k, .string (mkS t), .int .i64 (a + b)]) (by simp [results, Tryd.results16, go_sem]) rfl ⟨rfl, ?_⟩
  repeat (refine Below.setCell ?_ (by simp) _)
  exact (((Below.refl _ _).alloc (Nat.le_refl _) _).alloc (by simp) _)

theorem reads_at {w : World} {v : Value} {ls : List Lx} (h : ReadsLx w v ls) (i : Nat) (hi : i < ls.length) :
    ∃ b off cap, v = .slice (some ⟨b, off, none⟩) ls.length cap ∧ w.cell? ⟨b, off + i * 3, none⟩ = some (.int .u8 (ls.getD i (0, [], 0)).1) ∧ w.cell? ⟨b, off + i * 3 + 1, none⟩ = some (.string (mkS (ls.getD i (0, [], 0)).2.1)) ∧ w.cell? ⟨b, off + i * 3 + 2, none⟩ = some (.int .i64 (ls.getD i (0, [], 0)).2.2) := by
  obtain ⟨p, cap, rfl, hl, h0⟩ := h
  rcases h0 with h0 | ⟨b, off, rfl, hc⟩
  · omega
  · have e : ls.getD i (0, [], 0) = ls[i] := by simp [List.getD_eq_getElem?_getD, hi]
    rw [e]
    exact ⟨b, off, cap, rfl, hc i hi⟩
theorem ReadsLx.len {w : World} {v : Value} {ls : List Lx} (h : ReadsLx w v ls) : ls.length ≤ 100000000000 := by
  obtain ⟨p, cap, rfl, hl, h0⟩ := h; exact hl

theorem lx_cases (x1 y1 : Nat) (x2 y2 : List UInt8) (x3 y3 : Int) : ((x1, x2, x3) : Lx) = (y1, y2, y3) ∨ (((x1, x2, x3) : Lx) ≠ (y1, y2, y3) ∧ (x1 ≠ y1 ∨ (x1 = y1 ∧ x2 ≠ y2) ∨ (x1 = y1 ∧ x2 = y2 ∧ x3 ≠ y3))) := by
  by_cases e1 : x1 = y1
  · by_cases e2 : x2 = y2
    · by_cases e3 : x3 = y3
      · exact .inl (by rw [e1, e2, e3])
      · exact .inr ⟨by simp [e3], .inr (.inr ⟨e1, e2, e3⟩)⟩
    · exact .inr ⟨by simp [e2], .inr (.inl ⟨e1, e2⟩)⟩
  · exact .inr ⟨by simp [e1], .inl e1⟩

/-- What head asks of a token. -/
def headP (old now : List Lx) (F : Int) (i : Nat) : Bool := decide ((old.getD i (0, [], 0)).2.2 < F) && (old.getD i (0, [], 0) == now.getD i (0, [], 0))

set_option maxRecDepth 100000 in
set_option maxHeartbeats 2000000 in
theorem head1 (old now : List Lx) (ov nv : Value) (x : Ed) (s t : List UInt8) (bo bd bn : Nat) (i : Nat) (w : World) (hi : i < old.length) (hi2 : i < now.length)
    (ho : ReadsLx w ov old) (hn : ReadsLx w nv now) (co : w.cell? ⟨bo, 0, none⟩ = some ov) (cn : w.cell? ⟨bn, 0, none⟩ = some nv) (cd : w.cell? ⟨bd, 0, none⟩ = some (.int .i64 x.1)) :
    Calls Tryd.prog 49 #[.int .i64 i, .pointer (some ⟨bo, 0, none⟩), .pointer (some ⟨bd, 0, none⟩), .pointer (some ⟨bn, 0, none⟩)] w fun e W' => e = .returned (.bool (headP old now x.1 i)) ∧ Below w.heap.size w W' := by
  have hlo := ho.len; have hln := hn.len
  obtain ⟨b, off, cap, rfl, a1, a2, a3⟩ := reads_at ho i hi
  obtain ⟨b2, off2, cap2, rfl, c1, c2, c3⟩ := reads_at hn i hi2
  have HP : Hid (headP old now x.1 i = (decide ((old.getD i (0, [], 0)).2.2 < x.1) && (old.getD i (0, [], 0) == now.getD i (0, [], 0)))) := rfl
  obtain ⟨y, hy⟩ : ∃ y, y = old.getD i (0, [], 0) := ⟨_, rfl⟩
  obtain ⟨z, hz⟩ : ∃ z, z = now.getD i (0, [], 0) := ⟨_, rfl⟩
  obtain ⟨F, hF⟩ : ∃ F, F = x.1 := ⟨_, rfl⟩
  rw [← hy] at a1 a2 a3 HP
  rw [← hz] at c1 c2 c3 HP
  rw [← hF] at cd HP ⊢
  obtain ⟨n, hn'⟩ : ∃ n, n = old.length := ⟨_, rfl⟩
  obtain ⟨m, hm'⟩ : ∃ m, m = now.length := ⟨_, rfl⟩
  rw [← hn'] at co hi hlo
  rw [← hm'] at cn hi2 hln
  obtain ⟨y1, y2, y3⟩ := y
  obtain ⟨z1, z2, z3⟩ := z
  clear hy hz ho hn hF hn' hm'
  by_cases hlt : y3 < F
  case neg =>
    have hd : decide (y3 < F) = false := decide_eq_false hlt
    have HQ : Hid (headP old now F i = false) := by show _ = _; rw [HP.out, hd]; rfl
    clear HP hlt
    go_enter Tryd.func49, Tryd.ntmps49
    go_wp2
    go_quiet (fail)
    go_wp2
    go_ret
    exact ⟨ret_bool HQ.out.symm, below_drewN _ _⟩
  case pos =>
    have hd : decide (y3 < F) = true := decide_eq_true hlt
    have HQ : Hid (headP old now F i = (((y1, y2, y3) : Lx) == (z1, z2, z3))) := by show _ = _; rw [HP.out, hd]; rfl
    clear HP hlt
    rcases lx_cases y1 z1 y2 z2 y3 z3 with hE | ⟨hne, hE⟩
    · have HS : Hid (headP old now F i = true) := by show _ = _; rw [HQ.out, hE]; simp
      simp only [Prod.mk.injEq] at hE
      obtain ⟨rfl, rfl, rfl⟩ := hE
      clear HQ
      go_enter Tryd.func49, Tryd.ntmps49
      go_wp2
      go_quiet (fail)
      go_wp2
      go_ret
      exact ⟨ret_bool HS.out.symm, below_drewN _ _⟩
    · have HS : Hid (headP old now F i = false) := by show _ = _; rw [HQ.out]; exact beq_eq_false_iff_ne.2 hne
      clear HQ hne
      rcases hE with hE | ⟨rfl, hE⟩ | ⟨rfl, rfl, hE⟩
      · have g1 : ((y1 : Int) == (z1 : Int)) = false := by rw [beq_eq_false_iff_ne]; omega
        have g2 : ¬ ((y1 : Int) = (z1 : Int)) := by omega
        clear hE
        go_enter Tryd.func49, Tryd.ntmps49
        go_wp2
        go_quiet (fail)
        go_wp2
        go_ret
        exact ⟨ret_bool HS.out.symm, below_drewN _ _⟩
      · have g2 : ¬ ((mkS y2).toList = (mkS z2).toList) := by rw [mkS_tl]; exact hE
        clear hE
        go_enter Tryd.func49, Tryd.ntmps49
        go_wp2
        go_quiet (fail)
        go_wp2
        go_ret
        exact ⟨ret_bool HS.out.symm, below_drewN _ _⟩
      · go_enter Tryd.func49, Tryd.ntmps49
        go_wp2
        go_quiet (fail)
        go_wp2
        go_ret
        exact ⟨ret_bool HS.out.symm, below_drewN _ _⟩
end Go.Proofs.YtlhbfgkcalalkaaDoor
