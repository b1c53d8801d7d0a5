/- Contracts of Check, Prove, Below, Join, Reach. -/
import Derived.Test.YtfhnigpjmljhbaaDoorOrAb
set_option linter.unusedVariables false
set_option linter.unusedSimpArgs false
namespace Go.Proofs.YtfhnigpjmljhbaaDoor.Or
open Go.RowKit Go.Shelf

def chkE (t : Tab) : Nat := if frmF t then 0 else 4
/-- The error of a function of a table and elements; of a lattice and elements. -/
def tabE (t : Tab) (es : List Int) : Nat := if frmF t then (if es.all (inF t.n) then 0 else 7) else 4
def latE (t : Tab) (es : List Int) : Nat := if frmF t then (if latF t then (if es.all (inF t.n) then 0 else 7) else 12) else 4
def proveF (t : Tab) : Nat × Nat × Nat := if frmF t && !latF t then brkF t.R t.n t.wr else (0, 0, 0)

set_option maxRecDepth 100000 in
set_option maxHeartbeats 2000000 in
theorem prove_any (t : Tab) (ve va vw : Value) (w : World) (hT : TabIn w ve va vw t) (hS : Small t) (hL : LaidOk w) :
    Calls Tryd.prog 25 #[tabV t ve va vw] w fun e w' => e = .returned (.tuple #[brkV (proveF t), .int .i64 (latE t [])]) ∧ Below w.heap.size w w' := by
  obtain ⟨W2, hW2⟩ : ∃ W2, W2 = (w.alloc (.cells #[.string (mkS t.name), ve, va, vw] 26)).alloc (Obj.cells #[Value.int IntKind.u8 0, Value.int IntKind.i64 0, Value.int IntKind.i64 0] 52) := ⟨_, rfl⟩
  have b2 : Below w.heap.size w W2 := by rw [hW2]; exact ((Below.refl _ _).alloc (Nat.le_refl _) _).alloc (by simp) _
  have r0 : W2.cell? ⟨w.heap.size + 1, 0, none⟩ = some (.int .u8 0) := by rw [hW2]; simp [go_sem]
  have r1 : W2.cell? ⟨w.heap.size + 1, 1, none⟩ = some (.int .i64 0) := by rw [hW2]; simp [go_sem]
  have r2 : W2.cell? ⟨w.heap.size + 1, 2, none⟩ = some (.int .i64 0) := by rw [hW2]; simp [go_sem]
  have f0 : W2.frozen? ⟨w.heap.size + 1, 0, none⟩ = false := by rw [hW2]; simp [go_sem]
  have f1 : W2.frozen? ⟨w.heap.size + 1, 1, none⟩ = false := by rw [hW2]; simp [go_sem]
  have f2 : W2.frozen? ⟨w.heap.size + 1, 2, none⟩ = false := by rw [hW2]; simp [go_sem]
  have CN : Hid (frmF t = false → Calls Tryd.prog 45 #[tabV t ve va vw, .slice none 0 0] W2 fun e w' => e = .returned (.tuple #[.pointer none, .int .i64 4]) ∧ Below W2.heap.size W2 w') := fun hf => table_no t ve va vw _ [] W2 (hT.below b2) hS (hL.below b2) (Rd.nil _) hf
  have CY : Hid (frmF t = true → Calls Tryd.prog 45 #[tabV t ve va vw, .slice none 0 0] W2 fun e w' => ∃ b : Nat, e = .returned (.tuple #[.pointer (some ⟨b, 0, none⟩), .int .i64 0]) ∧ WalkedAt w' b t ∧ Below W2.heap.size W2 w') := fun hf => table_yes t ve va vw _ [] W2 (hT.below b2) hS (hL.below b2) (Rd.nil _) hf
  have CB : Hid (∀ W b, Below w.heap.size w W → WalkedAt W b t → Calls Tryd.prog 54 #[.pointer (some ⟨b, 0, none⟩)] W fun e w' => e = .returned (brkV (brkF t.R t.n t.wr)) ∧ Below W.heap.size W w') := fun W b h hw => firstBreak_any b t W hw (hL.below h).tabOk
  have HW2 := Lib.hid hW2; have HB2 := Lib.hid b2
  have z2 : w.heap.size + 1 < W2.heap.size := cell_lt r0
  obtain ⟨pe, ce, rfl⟩ := hT.e.form
  obtain ⟨pa, ca, rfl⟩ := hT.a.form
  obtain ⟨pw, cw, rfl⟩ := hT.w.form
  clear hT hS hL hW2 b2
  unfold tabV at CN CY ⊢
  have fin : ∀ (U : World) (x0 x1 x2 : Int), Below w.heap.size w U → (U.cell? ⟨w.heap.size + 1, 0, none⟩).isSome = true → (U.cell? ⟨w.heap.size + 1, 1, none⟩).isSome = true → (U.cell? ⟨w.heap.size + 1, 2, none⟩).isSome = true →
      ((((U.setCell ⟨w.heap.size + 1, 0, none⟩ (.int .u8 x0)).setCell ⟨w.heap.size + 1, 1, none⟩ (.int .i64 x1)).setCell ⟨w.heap.size + 1, 2, none⟩ (.int .i64 x2)).cell? ⟨w.heap.size + 1, 0, none⟩ = some (.int .u8 x0) ∧ (((U.setCell ⟨w.heap.size + 1, 0, none⟩ (.int .u8 x0)).setCell ⟨w.heap.size + 1, 1, none⟩ (.int .i64 x1)).setCell ⟨w.heap.size + 1, 2, none⟩ (.int .i64 x2)).cell? ⟨w.heap.size + 1, 1, none⟩ = some (.int .i64 x1) ∧ (((U.setCell ⟨w.heap.size + 1, 0, none⟩ (.int .u8 x0)).setCell ⟨w.heap.size + 1, 1, none⟩ (.int .i64 x1)).setCell ⟨w.heap.size + 1, 2, none⟩ (.int .i64 x2)).cell? ⟨w.heap.size + 1, 2, none⟩ = some (.int .i64 x2)) ∧
      Below w.heap.size w (((U.setCell ⟨w.heap.size + 1, 0, none⟩ (.int .u8 x0)).setCell ⟨w.heap.size + 1, 1, none⟩ (.int .i64 x1)).setCell ⟨w.heap.size + 1, 2, none⟩ (.int .i64 x2)) := fun U x0 x1 x2 hb h0 h1 h2 =>
    ⟨set3_cells _ _ _ h0 h1 h2, ((hb.setCell (p := ⟨w.heap.size + 1, 0, none⟩) (by simp) _).setCell (p := ⟨w.heap.size + 1, 1, none⟩) (by simp) _).setCell (p := ⟨w.heap.size + 1, 2, none⟩) (by simp) _⟩
  have HFIN := Lib.hid fin
  clear fin
  cases hf : frmF t with
  | false =>
    have HP : Hid (proveF t = (0, 0, 0) ∧ latE t [] = 4) := ⟨by unfold proveF; rw [hf]; rfl, by unfold latE; rw [hf]; rfl⟩
    have C := Lib.hid (CN.out hf)
    clear hf CN CY CB
    go_enter Tryd.func25, Tryd.ntmps25
    go_wp2_with fail
    rw [← HW2.out]
    refine C.out.mono ?_
    rintro e w1 ⟨rfl, hb⟩
    have k0 := (hb.cell (cell_lt r0)).trans r0
    have k1 := (hb.cell (cell_lt r1)).trans r1
    have k2 := (hb.cell (cell_lt r2)).trans r2
    have g0 := (hb.frozen (p := ⟨w.heap.size + 1, 0, none⟩) z2).trans f0
    have g1 := (hb.frozen (p := ⟨w.heap.size + 1, 1, none⟩) z2).trans f1
    have g2 := (hb.frozen (p := ⟨w.heap.size + 1, 2, none⟩) z2).trans f2
    have HB1 := Lib.hid (HB2.out.trans (hb.mono HB2.out.size))
    clear hb r0 r1 r2 f0 f1 f2
    go_wp2
    obtain ⟨⟨s0, s1, s2⟩, s3⟩ := HFIN.out w1 0 0 0 HB1.out (by rw [k0]; rfl) (by rw [k1]; rfl) (by rw [k2]; rfl)
    refine bodyPost_ret (v := .tuple #[brkV (0, 0, 0), .int .i64 4]) (by simp [results, Tryd.results25, go_sem, brkV, s0, s1, s2]) rfl ⟨by rw [HP.out.1, HP.out.2]; rfl, s3⟩
  | true =>
    have C := Lib.hid (CY.out hf)
    rcases hy : brkF t.R t.n t.wr with ⟨y0, y1, y2⟩
    have HP : Hid (proveF t = if y0 = 0 then (0, 0, 0) else (y0, y1, y2)) := by
      show _ = _
      unfold proveF latF; rw [hf, hy]
      by_cases e : y0 = 0
      · rw [e]; rfl
      · rw [if_neg e]; simp [e]
    have HE : Hid (latE t [] = if y0 = 0 then 0 else 12) := by
      show _ = _
      unfold latE latF; rw [hf, hy]; simp only [if_true, List.all_nil]
      by_cases e : y0 = 0
      · rw [e]; rfl
      · rw [if_neg e, beq_eq_false_iff_ne.2 e]; rfl
    rw [hy] at CB
    unfold brkV at CB
    simp only at CB
    clear hf hy CN CY
    go_enter Tryd.func25, Tryd.ntmps25
    go_wp2_with fail
    rw [← HW2.out]
    refine C.out.mono ?_
    rintro e w1 ⟨b, rfl, hw, hb⟩
    have k0 := (hb.cell (cell_lt r0)).trans r0
    have k1 := (hb.cell (cell_lt r1)).trans r1
    have k2 := (hb.cell (cell_lt r2)).trans r2
    have g0 := (hb.frozen (p := ⟨w.heap.size + 1, 0, none⟩) z2).trans f0
    have g1 := (hb.frozen (p := ⟨w.heap.size + 1, 1, none⟩) z2).trans f1
    have g2 := (hb.frozen (p := ⟨w.heap.size + 1, 2, none⟩) z2).trans f2
    have HB1 := Lib.hid (HB2.out.trans (hb.mono HB2.out.size))
    have HWK := Lib.hid hw
    have z1 : w.heap.size + 1 < w1.heap.size := cell_lt k0
    clear hb r0 r1 r2 f0 f1 f2 hw z2
    go_wp2_with fail
    refine (CB.out _ _ HB1.out HWK.out).mono ?_
    rintro e w2 ⟨rfl, hb⟩
    have j0 := (hb.cell (cell_lt k0)).trans k0
    have j1 := (hb.cell (cell_lt k1)).trans k1
    have j2 := (hb.cell (cell_lt k2)).trans k2
    have h0 := (hb.frozen (p := ⟨w.heap.size + 1, 0, none⟩) z1).trans g0
    have h1 := (hb.frozen (p := ⟨w.heap.size + 1, 1, none⟩) z1).trans g1
    have h2 := (hb.frozen (p := ⟨w.heap.size + 1, 2, none⟩) z1).trans g2
    have HB3 := Lib.hid (HB1.out.trans (hb.mono HB1.out.size))
    have z3 : w.heap.size + 1 < w2.heap.size := cell_lt j0
    clear hb k0 k1 k2 g0 g1 g2 z1
    by_cases e0 : y0 = 0
    · have hne : ((y0 : Int) != 0) = false := by rw [bne_eq_false_iff_eq]; omega
      have HE0 := Lib.hid e0
      clear e0
      go_wp2
      have HP2 : Hid (proveF t = (0, 0, 0) ∧ latE t [] = 0) := ⟨by rw [HP.out, if_pos HE0.out], by rw [HE.out, if_pos HE0.out]⟩
      obtain ⟨⟨s0, s1, s2⟩, s3⟩ := HFIN.out w2 0 0 0 HB3.out (by rw [j0]; rfl) (by rw [j1]; rfl) (by rw [j2]; rfl)
      have ba := fun (X : World) (o : Obj) => (Below.refl X.heap.size X).alloc (Nat.le_refl _) o
      have t0 := ((ba _ (Obj.cells #[Value.int IntKind.u8 ↑y0, Value.int IntKind.i64 ↑y1, Value.int IntKind.i64 ↑y2] 52)).cell (cell_lt s0)).trans s0
      have t1 := ((ba _ (Obj.cells #[Value.int IntKind.u8 ↑y0, Value.int IntKind.i64 ↑y1, Value.int IntKind.i64 ↑y2] 52)).cell (cell_lt s1)).trans s1
      have t2 := ((ba _ (Obj.cells #[Value.int IntKind.u8 ↑y0, Value.int IntKind.i64 ↑y1, Value.int IntKind.i64 ↑y2] 52)).cell (cell_lt s2)).trans s2
      refine bodyPost_ret (v := .tuple #[brkV (0, 0, 0), .int .i64 0]) (by simp [results, Tryd.results25, go_sem, brkV, t0, t1, t2]) rfl ⟨by rw [HP2.out.1, HP2.out.2]; rfl, s3.alloc s3.size _⟩

    · have hne : ((y0 : Int) != 0) = true := by rw [bne_iff_ne]; omega
      have HE0 := Lib.hid e0
      clear e0
      go_wp2
      have HP2 : Hid (proveF t = (y0, y1, y2) ∧ latE t [] = 12) := ⟨by rw [HP.out, if_neg HE0.out], by rw [HE.out, if_neg HE0.out]⟩
      obtain ⟨⟨s0, s1, s2⟩, s3⟩ := HFIN.out w2 y0 y1 y2 HB3.out (by rw [j0]; rfl) (by rw [j1]; rfl) (by rw [j2]; rfl)
      have ba := fun (X : World) (o : Obj) => (Below.refl X.heap.size X).alloc (Nat.le_refl _) o
      have t0 := ((ba _ (Obj.cells #[Value.int IntKind.u8 ↑y0, Value.int IntKind.i64 ↑y1, Value.int IntKind.i64 ↑y2] 52)).cell (cell_lt s0)).trans s0
      have t1 := ((ba _ (Obj.cells #[Value.int IntKind.u8 ↑y0, Value.int IntKind.i64 ↑y1, Value.int IntKind.i64 ↑y2] 52)).cell (cell_lt s1)).trans s1
      have t2 := ((ba _ (Obj.cells #[Value.int IntKind.u8 ↑y0, Value.int IntKind.i64 ↑y1, Value.int IntKind.i64 ↑y2] 52)).cell (cell_lt s2)).trans s2
      refine bodyPost_ret (v := .tuple #[brkV (y0, y1, y2), .int .i64 12]) (by simp [results, Tryd.results25, go_sem, brkV, t0, t1, t2]) rfl ⟨by rw [HP2.out.1, HP2.out.2]; rfl, s3.alloc s3.size _⟩


end Go.Proofs.YtfhnigpjmljhbaaDoor.Or
