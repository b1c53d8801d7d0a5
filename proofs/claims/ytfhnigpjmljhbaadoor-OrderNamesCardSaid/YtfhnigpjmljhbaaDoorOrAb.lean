/- The contracts of table and lattice. -/
import Derived.Test.YtfhnigpjmljhbaaDoorOrAa
set_option linter.unusedVariables false
set_option linter.unusedSimpArgs false
namespace Go.Proofs.YtfhnigpjmljhbaaDoor.Or
open Go.RowKit Go.Shelf

theorem LaidOk.tabOk {w : World} (h : LaidOk w) : TabOk w := h.tab

set_option maxRecDepth 100000 in
set_option maxHeartbeats 2000000 in
theorem table_no (t : Tab) (ve va vw v : Value) (es : List Int) (w : World) (hT : TabIn w ve va vw t) (hS : Small t) (hL : LaidOk w) (hv : RdI w v es) (hf : frmF t = false) :
    Calls Tryd.prog 45 #[tabV t ve va vw, v] w fun e w' => e = .returned (.tuple #[.pointer none, .int .i64 4]) ∧ Below w.heap.size w w' := by
  obtain ⟨p, cap, rfl⟩ := hv.form
  obtain ⟨W2, hW2⟩ : ∃ W2, W2 = w.alloc (.cells #[.string (mkS t.name), ve, va, vw] 26) := ⟨_, rfl⟩
  have b2 : Below w.heap.size w W2 := by rw [hW2]; exact (Below.refl _ _).alloc (Nat.le_refl _) _
  have C := Lib.hid (formed_any t ve va vw W2 (hT.below b2) hS (hL.below b2))
  rw [hf] at C
  have HW2 := Lib.hid hW2; have HB2 := Lib.hid b2
  obtain ⟨pe, ce, rfl⟩ := hT.e.form
  obtain ⟨pa, ca, rfl⟩ := hT.a.form
  obtain ⟨pw, cw, rfl⟩ := hT.w.form
  clear hT hS hL hv hf hW2 b2
  unfold tabV at C ⊢
  go_enter Tryd.func45, Tryd.ntmps45
  go_wp2_with fail
  rw [← HW2.out]
  refine C.out.mono ?_
  rintro e w' ⟨rfl, hb⟩
  go_wp2
  go_ret2
  exact ⟨rfl, HB2.out.trans (hb.mono HB2.out.size)⟩

set_option maxRecDepth 100000 in
set_option maxHeartbeats 2000000 in
theorem table_yes (t : Tab) (ve va vw v : Value) (es : List Int) (w : World) (hT : TabIn w ve va vw t) (hS : Small t) (hL : LaidOk w) (hv : RdI w v es) (hf : frmF t = true) :
    Calls Tryd.prog 45 #[tabV t ve va vw, v] w fun e w' => ∃ b : Nat, e = .returned (.tuple #[.pointer (some ⟨b, 0, none⟩), .int .i64 (if es.all (inF t.n) then 0 else 7)]) ∧ WalkedAt w' b t ∧ Below w.heap.size w w' := by
  obtain ⟨W2, hW2⟩ : ∃ W2, W2 = w.alloc (.cells #[.string (mkS t.name), ve, va, vw] 26) := ⟨_, rfl⟩
  have b2 : Below w.heap.size w W2 := by rw [hW2]; exact (Below.refl _ _).alloc (Nat.le_refl _) _
  have c0 : W2.cell? ⟨w.heap.size, 0, none⟩ = some (.string (mkS t.name)) := by rw [hW2]; simp [go_sem]
  have c1 : W2.cell? ⟨w.heap.size, 1, none⟩ = some ve := by rw [hW2]; simp [go_sem]
  have c2 : W2.cell? ⟨w.heap.size, 2, none⟩ = some va := by rw [hW2]; simp [go_sem]
  have c3 : W2.cell? ⟨w.heap.size, 3, none⟩ = some vw := by rw [hW2]; simp [go_sem]
  have C := Lib.hid (formed_any t ve va vw W2 (hT.below b2) hS (hL.below b2))
  rw [hf] at C
  have CW : Hid (∀ W, Below w.heap.size w W → Calls Tryd.prog 53 #[tabV t ve va vw] W fun e w' => ∃ b : Nat, e = .returned (.pointer (some ⟨b, 0, none⟩)) ∧ W.heap.size ≤ b ∧ WalkedAt w' b t ∧ Below W.heap.size W w') := fun W h => walk_any t ve va vw W (hT.below h) hf
  have CM : Hid (∀ W b, Below w.heap.size w W → WalkedAt W b t → Calls Tryd.prog 79 #[.pointer (some ⟨b, 0, none⟩), v] W fun e w' => e = .returned (.int .i64 (if es.all (inF t.n) then 0 else 7)) ∧ Below W.heap.size W w') := fun W b h hw => missing_any b t v es W hw (hv.below h)
  obtain ⟨p, cap, rfl⟩ := hv.form
  obtain ⟨E, hE⟩ : ∃ E : Int, E = if es.all (inF t.n) then 0 else 7 := ⟨_, rfl⟩
  rw [← hE] at CM ⊢
  have HW2 := Lib.hid hW2; have HB2 := Lib.hid b2
  obtain ⟨pe, ce, rfl⟩ := hT.e.form
  obtain ⟨pa, ca, rfl⟩ := hT.a.form
  obtain ⟨pw, cw, rfl⟩ := hT.w.form
  clear hT hS hL hv hf hW2 b2 hE
  unfold tabV at C CW ⊢
  go_enter Tryd.func45, Tryd.ntmps45
  go_wp2_with fail
  rw [← HW2.out]
  refine C.out.mono ?_
  rintro e w1 ⟨rfl, hb⟩
  have k0 := (hb.cell (cell_lt c0)).trans c0
  have k1 := (hb.cell (cell_lt c1)).trans c1
  have k2 := (hb.cell (cell_lt c2)).trans c2
  have k3 := (hb.cell (cell_lt c3)).trans c3
  have HB1 := Lib.hid (HB2.out.trans (hb.mono HB2.out.size))
  clear hb c0 c1 c2 c3
  go_wp2_with fail
  refine (CW.out _ HB1.out).mono ?_
  rintro e w2 ⟨b, rfl, hlb, hw, hb⟩
  have HB3 := Lib.hid (HB1.out.trans (hb.mono HB1.out.size))
  have HWK := Lib.hid hw
  clear hb hlb hw
  go_wp2_with fail
  refine (CM.out _ _ HB3.out HWK.out).mono ?_
  rintro e w3 ⟨rfl, hb⟩
  have HB4 := Lib.hid (HB3.out.trans (hb.mono HB3.out.size))
  have HWK2 := Lib.hid (HWK.out.below hb)
  clear hb
  go_wp2
  go_ret2
  exact ⟨b, rfl, HWK2.out, HB4.out⟩

/-- Whether a table is a lattice. -/
def latF (t : Tab) : Bool := (brkF t.R t.n t.wr).1 == 0

set_option maxRecDepth 100000 in
set_option maxHeartbeats 2000000 in
theorem lattice_no (t : Tab) (ve va vw v : Value) (es : List Int) (w : World) (hT : TabIn w ve va vw t) (hS : Small t) (hL : LaidOk w) (hv : RdI w v es) (hf : frmF t = false) :
    Calls Tryd.prog 39 #[tabV t ve va vw, v] w fun e w' => e = .returned (.tuple #[.pointer none, .int .i64 4]) ∧ Below w.heap.size w w' := by
  obtain ⟨p, cap, rfl⟩ := hv.form
  obtain ⟨W2, hW2⟩ : ∃ W2, W2 = w.alloc (.cells #[.string (mkS t.name), ve, va, vw] 26) := ⟨_, rfl⟩
  have b2 : Below w.heap.size w W2 := by rw [hW2]; exact (Below.refl _ _).alloc (Nat.le_refl _) _
  have C := Lib.hid (table_no t ve va vw (.slice none 0 0) [] W2 (hT.below b2) hS (hL.below b2) (Rd.nil _) hf)
  have HW2 := Lib.hid hW2; have HB2 := Lib.hid b2
  obtain ⟨pe, ce, rfl⟩ := hT.e.form
  obtain ⟨pa, ca, rfl⟩ := hT.a.form
  obtain ⟨pw, cw, rfl⟩ := hT.w.form
  clear hT hS hL hv hf hW2 b2
  unfold tabV at C ⊢
  go_enter Tryd.func39, Tryd.ntmps39
  go_wp2_with fail
  rw [← HW2.out]
  refine C.out.mono ?_
  rintro e w' ⟨rfl, hb⟩
  go_wp2
  go_ret2
  exact ⟨rfl, HB2.out.trans (hb.mono HB2.out.size)⟩

set_option maxRecDepth 100000 in
set_option maxHeartbeats 2000000 in
theorem lattice_broken (t : Tab) (ve va vw v : Value) (es : List Int) (w : World) (hT : TabIn w ve va vw t) (hS : Small t) (hL : LaidOk w) (hv : RdI w v es) (hf : frmF t = true) (hb : latF t = false) :
    Calls Tryd.prog 39 #[tabV t ve va vw, v] w fun e w' => e = .returned (.tuple #[.pointer none, .int .i64 12]) ∧ Below w.heap.size w w' := by
  obtain ⟨p, cap, rfl⟩ := hv.form
  obtain ⟨W2, hW2⟩ : ∃ W2, W2 = w.alloc (.cells #[.string (mkS t.name), ve, va, vw] 26) := ⟨_, rfl⟩
  have b2 : Below w.heap.size w W2 := by rw [hW2]; exact (Below.refl _ _).alloc (Nat.le_refl _) _
  have C := Lib.hid (table_yes t ve va vw (.slice none 0 0) [] W2 (hT.below b2) hS (hL.below b2) (Rd.nil _) hf)
  have HL := Lib.hid hL
  have CB : Hid (∀ W b, Below w.heap.size w W → WalkedAt W b t → Calls Tryd.prog 54 #[.pointer (some ⟨b, 0, none⟩)] W fun e w' => e = .returned (brkV (brkF t.R t.n t.wr)) ∧ Below W.heap.size W w') := fun W b h hw => firstBreak_any b t W hw (hL.below h).tabOk
  unfold latF at hb
  rcases hy : brkF t.R t.n t.wr with ⟨y0, y1, y2⟩
  rw [hy] at CB hb
  unfold brkV at CB
  simp only at CB hb
  have hne : ((y0 : Int) != 0) = true := by rw [bne_iff_ne]; have := beq_eq_false_iff_ne.1 hb; omega
  have hfd : ∀ W, (Instr.field 52 (.agg #[.int .u8 (y0 : Int), .int .i64 (y1 : Int), .int .i64 (y2 : Int)]) 0).run Tryd.prog W = .ok (.int .u8 (y0 : Int)) W := fun _ => by kernel_rfl
  have HW2 := Lib.hid hW2; have HB2 := Lib.hid b2
  obtain ⟨pe, ce, rfl⟩ := hT.e.form
  obtain ⟨pa, ca, rfl⟩ := hT.a.form
  obtain ⟨pw, cw, rfl⟩ := hT.w.form
  clear hT hS hL hv hf hW2 b2 hb hy
  unfold tabV at C ⊢
  go_enter Tryd.func39, Tryd.ntmps39
  go_wp2_with fail
  rw [← HW2.out]
  refine C.out.mono ?_
  rintro e w1 ⟨b, rfl, hw, hb⟩
  have HB3 := Lib.hid (HB2.out.trans (hb.mono HB2.out.size))
  have HWK := Lib.hid hw
  clear hb hw
  simp only [List.all_nil, if_true]
  go_wp2_with fail
  refine (CB.out _ _ HB3.out HWK.out).mono ?_
  rintro e w2 ⟨rfl, hb⟩
  have HB4 := Lib.hid (HB3.out.trans (hb.mono HB3.out.size))
  clear hb
  go_wp2
  go_ret2
  exact ⟨rfl, HB4.out⟩

set_option maxRecDepth 100000 in
set_option maxHeartbeats 2000000 in
theorem lattice_yes (t : Tab) (ve va vw v : Value) (es : List Int) (w : World) (hT : TabIn w ve va vw t) (hS : Small t) (hL : LaidOk w) (hv : RdI w v es) (hf : frmF t = true) (hb : latF t = true) :
    Calls Tryd.prog 39 #[tabV t ve va vw, v] w fun e w' => ∃ b : Nat, e = .returned (.tuple #[.pointer (some ⟨b, 0, none⟩), .int .i64 (if es.all (inF t.n) then 0 else 7)]) ∧ WalkedAt w' b t ∧ Below w.heap.size w w' := by
  obtain ⟨W2, hW2⟩ : ∃ W2, W2 = w.alloc (.cells #[.string (mkS t.name), ve, va, vw] 26) := ⟨_, rfl⟩
  have b2 : Below w.heap.size w W2 := by rw [hW2]; exact (Below.refl _ _).alloc (Nat.le_refl _) _
  have C := Lib.hid (table_yes t ve va vw (.slice none 0 0) [] W2 (hT.below b2) hS (hL.below b2) (Rd.nil _) hf)
  have CB : Hid (∀ W b, Below w.heap.size w W → WalkedAt W b t → Calls Tryd.prog 54 #[.pointer (some ⟨b, 0, none⟩)] W fun e w' => e = .returned (brkV (brkF t.R t.n t.wr)) ∧ Below W.heap.size W w') := fun W b h hw => firstBreak_any b t W hw (hL.below h).tabOk
  have CM : Hid (∀ W b, Below w.heap.size w W → WalkedAt W b t → Calls Tryd.prog 79 #[.pointer (some ⟨b, 0, none⟩), v] W fun e w' => e = .returned (.int .i64 (if es.all (inF t.n) then 0 else 7)) ∧ Below W.heap.size W w') := fun W b h hw => missing_any b t v es W hw (hv.below h)
  obtain ⟨p, cap, rfl⟩ := hv.form
  obtain ⟨E, hE⟩ : ∃ E : Int, E = if es.all (inF t.n) then 0 else 7 := ⟨_, rfl⟩
  rw [← hE] at CM ⊢
  unfold latF at hb
  rcases hy : brkF t.R t.n t.wr with ⟨y0, y1, y2⟩
  rw [hy] at CB hb
  unfold brkV at CB
  simp only at CB hb
  have hne : ((y0 : Int) != 0) = false := by rw [bne_eq_false_iff_eq]; have := beq_iff_eq.1 hb; omega
  have hfd : ∀ W, (Instr.field 52 (.agg #[.int .u8 (y0 : Int), .int .i64 (y1 : Int), .int .i64 (y2 : Int)]) 0).run Tryd.prog W = .ok (.int .u8 (y0 : Int)) W := fun _ => by kernel_rfl
  have HW2 := Lib.hid hW2; have HB2 := Lib.hid b2
  obtain ⟨pe, ce, rfl⟩ := hT.e.form
  obtain ⟨pa, ca, rfl⟩ := hT.a.form
  obtain ⟨pw, cw, rfl⟩ := hT.w.form
  clear hT hS hL hv hf hW2 b2 hb hy hE
  unfold tabV at C ⊢
  go_enter Tryd.func39, Tryd.ntmps39
  go_wp2_with fail
  rw [← HW2.out]
  refine C.out.mono ?_
  rintro e w1 ⟨b, rfl, hw, hb⟩
  have HB3 := Lib.hid (HB2.out.trans (hb.mono HB2.out.size))
  have HWK := Lib.hid hw
  clear hb hw
  simp only [List.all_nil, if_true]
  go_wp2_with fail
  refine (CB.out _ _ HB3.out HWK.out).mono ?_
  rintro e w2 ⟨rfl, hb⟩
  have HB4 := Lib.hid (HB3.out.trans (hb.mono HB3.out.size))
  have HWK2 := Lib.hid (HWK.out.below hb)
  clear hb
  go_wp2_with fail
  refine (CM.out _ _ HB4.out HWK2.out).mono ?_
  rintro e w3 ⟨rfl, hb⟩
  have HB5 := Lib.hid (HB4.out.trans (hb.mono HB4.out.size))
  have HWK3 := Lib.hid (HWK2.out.below hb)
  clear hb
  go_wp2
  go_ret2
  exact ⟨b, rfl, HWK3.out, HB5.out⟩
end Go.Proofs.YtfhnigpjmljhbaaDoor.Or
