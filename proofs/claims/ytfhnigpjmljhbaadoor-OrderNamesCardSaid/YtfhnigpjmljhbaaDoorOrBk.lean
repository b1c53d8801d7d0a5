/- The contract of awake. -/
import Derived.Test.YtfhnigpjmljhbaaDoorOrBj
import Derived.Test.YtfhnigpjmljhbaaDoorOrBu
import Derived.Test.YtfhnigpjmljhbaaDoorOrBh
set_option linter.unusedVariables false
set_option linter.unusedSimpArgs false
namespace Go.Proofs.YtfhnigpjmljhbaaDoor.Or
open Go.RowKit Go.Shelf

def awS : Shp := .mk 6 [] [.mk 7 [] [.mk 1 [] [], .mk 5 [108] []]]
theorem dia1 : latE diamondT [1, 2] = 0 := by decide
theorem dia2 : (joinO diamondT.R diamondT.n 1 2).getD 0 = 3 := by decide
theorem many1 : proveF manyT = (4, 1, 2) := by decide
theorem many2 : latE manyT [] = 12 := by decide
theorem dia3 : latE diamondT [] = 0 := by decide
theorem dia4 : hgtC diamondT.R diamondT.n (diamondT.n + 1) 0 = 2 := by decide
theorem dia5 : frmF diamondT = true := by decide
theorem dia6 : textF diamondT = [108, 97, 116, 116, 105, 99, 101, 32, 108, 32, 123, 32, 97, 58, 32, 98, 44, 32, 99, 59, 32, 98, 58, 32, 100, 59, 32, 99, 58, 32, 100, 59, 32, 100, 33, 32, 125] := by decide
theorem dia7 : latE diamondT [3] = 0 := by decide
theorem dia8 : partsL diamondT 3 = [1, 2] := by decide
theorem aw1 : deepF 4 awS = false := by decide
theorem aw2 : formF 5 awS = true := by decide
theorem aw3 : textS 5 awS = [109, 97, 112, 40, 112, 97, 105, 114, 40, 102, 108, 97, 103, 44, 32, 108, 41, 41] := by decide
theorem small_dia : Small diamondT := ⟨by decide, fun s hs => by simp [diamondT] at hs; rcases hs with rfl | rfl | rfl | rfl <;> decide⟩
theorem small_many : Small manyT := ⟨by decide, fun s hs => by simp [manyT] at hs; rcases hs with rfl | rfl | rfl | rfl | rfl <;> decide⟩

set_option maxRecDepth 100000 in
set_option maxHeartbeats 8000000 in
theorem awake_any (HJ : JoinOk) (w : World) (hL : LaidOk w) :
    Calls Tryd.prog 9 #[] w fun e w' => e = .returned (.bool true) ∧ Below w.heap.size w w' := by
  have CD : Hid (∀ W, Calls Tryd.prog 29 #[] W fun e w' => ∃ ve va vw, e = .returned (tabV diamondT ve va vw) ∧ TabIn w' ve va vw diamondT ∧ Below W.heap.size W w') := diamond_any
  have CM : Hid (∀ W, Calls Tryd.prog 28 #[] W fun e w' => ∃ ve va vw, e = .returned (tabV manyT ve va vw) ∧ TabIn w' ve va vw manyT ∧ Below W.heap.size W w') := many_any
  have C1 : Hid (∀ W ve va vw, Below w.heap.size w W → TabIn W ve va vw diamondT → Calls Tryd.prog 27 #[tabV diamondT ve va vw, .int .i64 1, .int .i64 2] W fun e w' => e = .returned (.tuple #[.int .i64 3, .int .i64 0]) ∧ Below W.heap.size W w') := fun W ve va vw h hT => by
    refine (Join_any diamondT ve va vw 1 2 W hT small_dia (hL.below h)).mono ?_
    rintro e w' ⟨rfl, hb⟩
    refine ⟨?_, hb⟩
    rw [dia1, if_pos rfl, show (1 : Int).toNat = 1 from rfl, show (2 : Int).toNat = 2 from rfl, dia2]; rfl
  have C2 : Hid (∀ W ve va vw, Below w.heap.size w W → TabIn W ve va vw manyT → Calls Tryd.prog 25 #[tabV manyT ve va vw] W fun e w' => e = .returned (.tuple #[.agg #[.int .u8 4, .int .i64 1, .int .i64 2], .int .i64 12]) ∧ Below W.heap.size W w') := fun W ve va vw h hT => by
    refine (prove_any manyT ve va vw W hT small_many (hL.below h)).mono ?_
    rintro e w' ⟨rfl, hb⟩
    refine ⟨?_, hb⟩
    rw [many1, many2]; rfl
  have C3 : Hid (∀ W ve va vw, Below w.heap.size w W → TabIn W ve va vw diamondT → Calls Tryd.prog 37 #[tabV diamondT ve va vw] W fun e w' => e = .returned (.tuple #[.int .i64 2, .int .i64 0]) ∧ Below W.heap.size W w') := fun W ve va vw h hT => by
    refine (Height_any diamondT ve va vw W hT small_dia (hL.below h)).mono ?_
    rintro e w' ⟨rfl, hb⟩
    refine ⟨?_, hb⟩
    rw [dia3, if_pos rfl, dia4]; rfl
  have C4 : Hid (∀ W ve va vw, Below w.heap.size w W → TabIn W ve va vw diamondT → Calls Tryd.prog 26 #[tabV diamondT ve va vw] W fun e w' => e = .returned (.tuple #[.string ⟨#[108, 97, 116, 116, 105, 99, 101, 32, 108, 32, 123, 32, 97, 58, 32, 98, 44, 32, 99, 59, 32, 98, 58, 32, 100, 59, 32, 99, 58, 32, 100, 59, 32, 100, 33, 32, 125]⟩, .int .i64 0]) ∧ Below W.heap.size W w') := fun W ve va vw h hT => by
    refine (text_yes HJ diamondT ve va vw W hT small_dia (hL.below h) dia5).mono ?_
    rintro e w' ⟨rfl, hb⟩
    refine ⟨?_, hb⟩
    rw [dia6]; rfl
  have C5 : Hid (∀ W ve va vw, Below w.heap.size w W → TabIn W ve va vw diamondT → Calls Tryd.prog 38 #[tabV diamondT ve va vw, .int .i64 3] W fun e w' => ∃ v, e = .returned (.tuple #[v, .int .i64 0]) ∧ RdI w' v [1, 2] ∧ Below W.heap.size W w') := fun W ve va vw h hT => by
    refine (Parts_any diamondT ve va vw 3 W hT small_dia (hL.below h)).mono ?_
    rintro e w' ⟨v, rfl, hv, hb⟩
    rw [dia7, if_pos rfl, show (3 : Int).toNat = 3 from rfl, dia8] at hv
    exact ⟨v, by rw [dia7]; rfl, hv, hb⟩
  have C6 : Hid (∀ W v, Below w.heap.size w W → KidIn 5 W v awS → Calls Tryd.prog 20 #[.agg #[.int .u8 6, .string ⟨#[]⟩, v]] W fun e w' => e = .returned (.tuple #[.string ⟨#[109, 97, 112, 40, 112, 97, 105, 114, 40, 102, 108, 97, 103, 44, 32, 108, 41, 41]⟩, .int .i64 0]) ∧ Below W.heap.size W w') := fun W v h hv => by
    refine (ShapeText_yes HJ 5 awS v W (by decide) hv (hL.below h) aw1 aw2).mono ?_
    rintro e w' ⟨rfl, hb⟩
    refine ⟨?_, hb⟩
    rw [aw3]; rfl
  have C7 : Hid (∀ W u v, RdI W u [1, 2] → RdI W v [1, 2] → Calls Tryd.prog 15 #[u, v] W fun e w' => e = .returned (.bool true) ∧ Below W.heap.size W w') := fun W u v hu hv => sameInts_any u v [1, 2] [1, 2] W hu hv
  clear HJ hL
  go_enter Tryd.func9, Tryd.ntmps9
  go_wp2_with fail
  refine (CD.out _).mono ?_
  rintro e w1 ⟨ve, va, vw, rfl, hT, hb⟩
  have HB1 := Lib.hid hb; have HT := Lib.hid hT
  clear hb hT
  go_wp2_with fail
  refine (C1.out _ _ _ _ HB1.out HT.out).mono ?_
  rintro e w2 ⟨rfl, hb⟩
  have HB2 := Lib.hid (HB1.out.trans (hb.mono HB1.out.size))
  clear hb HT
  go_wp2_with fail
  refine (CM.out _).mono ?_
  rintro e w3 ⟨ve2, va2, vw2, rfl, hT, hb⟩
  have HB3 := Lib.hid (HB2.out.trans (hb.mono HB2.out.size)); have HT := Lib.hid hT
  clear hb hT
  go_wp2_with fail
  refine (C2.out _ _ _ _ HB3.out HT.out).mono ?_
  rintro e w4 ⟨rfl, hb⟩
  have HB4 := Lib.hid (HB3.out.trans (hb.mono HB3.out.size))
  clear hb HT
  go_wp2_with fail
  obtain ⟨W5, hW5⟩ : ∃ W5, W5 = w4.alloc (Obj.cells #[Value.int IntKind.u8 4, Value.int IntKind.i64 1, Value.int IntKind.i64 2] 52) := ⟨_, rfl⟩
  rw [← hW5]
  have k0_5 : W5.cell? ⟨w4.heap.size, 0, none⟩ = some (.int .u8 4) := by rw [hW5]; simp [go_sem]
  have k1_5 : W5.cell? ⟨w4.heap.size, 1, none⟩ = some (.int .i64 1) := by rw [hW5]; simp [go_sem]
  have k2_5 : W5.cell? ⟨w4.heap.size, 2, none⟩ = some (.int .i64 2) := by rw [hW5]; simp [go_sem]
  have HB5 := Lib.hid (show Below w.heap.size w W5 by rw [hW5]; exact HB4.out.alloc HB4.out.size _)
  clear hW5
  refine (CD.out _).mono ?_
  rintro e w6 ⟨ve6, va6, vw6, rfl, hT, hb⟩
  have k0_6 := (hb.cell (cell_lt k0_5)).trans k0_5
  have k1_6 := (hb.cell (cell_lt k1_5)).trans k1_5
  have k2_6 := (hb.cell (cell_lt k2_5)).trans k2_5
  have HB6 := Lib.hid (HB5.out.trans (hb.mono HB5.out.size)); have HT := Lib.hid hT
  clear hb hT k0_5 k1_5 k2_5
  go_wp2_with fail
  refine (C3.out _ _ _ _ HB6.out HT.out).mono ?_
  rintro e w7 ⟨rfl, hb⟩
  have k0_7 := (hb.cell (cell_lt k0_6)).trans k0_6
  have k1_7 := (hb.cell (cell_lt k1_6)).trans k1_6
  have k2_7 := (hb.cell (cell_lt k2_6)).trans k2_6
  have HB7 := Lib.hid (HB6.out.trans (hb.mono HB6.out.size))
  clear hb k0_6 k1_6 k2_6
  clear HT
  go_wp2_with fail
  refine (CD.out _).mono ?_
  rintro e w8 ⟨ve8, va8, vw8, rfl, hT, hb⟩
  have k0_8 := (hb.cell (cell_lt k0_7)).trans k0_7
  have k1_8 := (hb.cell (cell_lt k1_7)).trans k1_7
  have k2_8 := (hb.cell (cell_lt k2_7)).trans k2_7
  have HB8 := Lib.hid (HB7.out.trans (hb.mono HB7.out.size))
  have HT := Lib.hid hT
  clear hT
  clear hb k0_7 k1_7 k2_7
  go_wp2_with fail
  refine (C4.out _ _ _ _ HB8.out HT.out).mono ?_
  rintro e w9 ⟨rfl, hb⟩
  have k0_9 := (hb.cell (cell_lt k0_8)).trans k0_8
  have k1_9 := (hb.cell (cell_lt k1_8)).trans k1_8
  have k2_9 := (hb.cell (cell_lt k2_8)).trans k2_8
  have HB9 := Lib.hid (HB8.out.trans (hb.mono HB8.out.size))
  clear hb k0_8 k1_8 k2_8
  clear HT
  go_wp2_with fail
  refine (CD.out _).mono ?_
  rintro e w10 ⟨ve10, va10, vw10, rfl, hT, hb⟩
  have k0_10 := (hb.cell (cell_lt k0_9)).trans k0_9
  have k1_10 := (hb.cell (cell_lt k1_9)).trans k1_9
  have k2_10 := (hb.cell (cell_lt k2_9)).trans k2_9
  have HB10 := Lib.hid (HB9.out.trans (hb.mono HB9.out.size))
  have HT := Lib.hid hT
  clear hT
  clear hb k0_9 k1_9 k2_9
  go_wp2_with fail
  refine (C5.out _ _ _ _ HB10.out HT.out).mono ?_
  rintro e w11 ⟨v, rfl, hv, hb⟩
  have k0_11 := (hb.cell (cell_lt k0_10)).trans k0_10
  have k1_11 := (hb.cell (cell_lt k1_10)).trans k1_10
  have k2_11 := (hb.cell (cell_lt k2_10)).trans k2_10
  have HB11 := Lib.hid (HB10.out.trans (hb.mono HB10.out.size))
  have HV := Lib.hid hv
  clear hv
  clear hb k0_10 k1_10 k2_10
  clear HT
  go_wp2_with fail
  obtain ⟨m, hm⟩ : ∃ m, m = w11.heap.size := ⟨_, rfl⟩
  rw [← hm]
  obtain ⟨X, hX⟩ : ∃ X, X = (w11.alloc (Obj.cells #[Value.int IntKind.u8 1, Value.string { data := #[] }, Value.slice none 0 0, Value.int IntKind.u8 5, Value.string { data := #[108] }, Value.slice none 0 0] 42)).alloc (Obj.cells #[Value.int IntKind.u8 7, Value.string { data := #[] }, Value.slice (some { block := m, off := 0 }) 2 2] 42) := ⟨_, rfl⟩
  rw [← hX]
  have bX : Below w11.heap.size w11 X := by rw [hX]; exact ((Below.refl _ _).alloc (Nat.le_refl _) _).alloc (by simp) _
  have y0 : X.cell? ⟨m, 0, none⟩ = some (.int .u8 1) := by rw [hX, hm]; simp [go_sem]
  have y1 : X.cell? ⟨m, 1, none⟩ = some (.string ⟨#[]⟩) := by rw [hX, hm]; simp [go_sem]
  have y2 : X.cell? ⟨m, 2, none⟩ = some (.slice none 0 0) := by rw [hX, hm]; simp [go_sem]
  have y3 : X.cell? ⟨m, 3, none⟩ = some (.int .u8 5) := by rw [hX, hm]; simp [go_sem]
  have y4 : X.cell? ⟨m, 4, none⟩ = some (.string ⟨#[108]⟩) := by rw [hX, hm]; simp [go_sem]
  have y5 : X.cell? ⟨m, 5, none⟩ = some (.slice none 0 0) := by rw [hX, hm]; simp [go_sem]
  have z0 : X.cell? ⟨m + 1, 0, none⟩ = some (.int .u8 7) := by rw [hX, hm]; simp [go_sem]
  have z1 : X.cell? ⟨m + 1, 1, none⟩ = some (.string ⟨#[]⟩) := by rw [hX, hm]; simp [go_sem]
  have z2 : X.cell? ⟨m + 1, 2, none⟩ = some (.slice (some ⟨m, 0, none⟩) 2 2) := by rw [hX, hm]; simp [go_sem]
  have K1 : KidIn 3 X (.slice none 0 0) (.mk 1 [] []) := ⟨⟨by decide, by decide⟩, none, 0, rfl, ⟨by decide, by decide⟩, .inl rfl⟩
  have K2 : KidIn 3 X (.slice none 0 0) (.mk 5 [108] []) := ⟨⟨by decide, by decide⟩, none, 0, rfl, ⟨by decide, by decide⟩, .inl rfl⟩
  have K3 : KidIn 4 X (.slice (some ⟨m, 0, none⟩) 2 2) (.mk 7 [] [.mk 1 [] [], .mk 5 [108] []]) := ⟨⟨by decide, by decide⟩, some ⟨m, 0, none⟩, 2, rfl, ⟨by decide, by decide⟩, .inr ⟨m, 0, rfl, fun i hi => by
    have hi2 : i < 2 := hi
    have h01 : i = 0 ∨ i = 1 := by omega
    rcases h01 with rfl | rfl
    · exact ⟨none, 0, y0, y1, y2, K1⟩
    · exact ⟨none, 0, y3, y4, y5, K2⟩⟩⟩
  have K4 : KidIn 5 X (.slice (some ⟨m + 1, 0, none⟩) 1 1) awS := ⟨⟨by decide, by decide⟩, some ⟨m + 1, 0, none⟩, 1, rfl, ⟨by decide, by decide⟩, .inr ⟨m + 1, 0, rfl, fun i hi => by
    have hi2 : i < 1 := hi
    have h0 : i = 0 := by omega
    subst h0
    exact ⟨some ⟨m, 0, none⟩, 2, z0, z1, z2, K3⟩⟩⟩
  have HBX := Lib.hid (HB11.out.trans (bX.mono HB11.out.size))
  have HK4 := Lib.hid K4
  have kX0 := (bX.cell (cell_lt k0_11)).trans k0_11
  have kX1 := (bX.cell (cell_lt k1_11)).trans k1_11
  have kX2 := (bX.cell (cell_lt k2_11)).trans k2_11
  have HVX := Lib.hid (HV.out.below bX)
  clear K1 K2 K3 K4 y0 y1 y2 y3 y4 y5 z0 z1 z2 bX hX hm k0_11 k1_11 k2_11 HV
  refine (C6.out _ _ HBX.out HK4.out).mono ?_
  rintro e w12 ⟨rfl, hb⟩
  have k0 := (hb.cell (cell_lt kX0)).trans kX0
  have k1 := (hb.cell (cell_lt kX1)).trans kX1
  have k2 := (hb.cell (cell_lt kX2)).trans kX2
  have HB12 := Lib.hid (HBX.out.trans (hb.mono HBX.out.size))
  have HV := Lib.hid (HVX.out.below hb)
  have l4 : w4.heap.size < w12.heap.size := cell_lt k0
  clear hb kX0 kX1 kX2 HVX HK4 HBX
  go_wp2_with fail
  refine (C7.out _ _ _ (HV.out.below ((Below.refl _ _).alloc (Nat.le_refl _) _)) (rd_cells (vs := [.int .i64 1, .int .i64 2]) (T := 3) (heap_alloc_at rfl) (by simp))).mono ?_
  rintro e w13 ⟨rfl, hb⟩
  have HB13 := Lib.hid ((HB12.out.alloc HB12.out.size _).trans (hb.mono (by have := HB12.out.size; simp; omega)))
  clear hb
  go_wp2
  go_ret
  exact ⟨rfl, HB13.out⟩
end Go.Proofs.YtfhnigpjmljhbaaDoor.Or
