/- order.Parts in a lattice: the parts lie in a row of the call's own. -/
import Derived.Test.YtmooikdodbjgpaaDoorOrGa
set_option linter.unusedVariables false
set_option linter.unusedSimpArgs false
namespace Go.Proofs.YtmooikdodbjgpaaDoor.Or
open Go.RowKit Go.Shelf

set_option maxRecDepth 100000 in
set_option maxHeartbeats 4000000 in
theorem Parts_own (t : Tab) (ve va vw : Value) (a : Nat) (w : World) (hT : TabIn w ve va vw t) (hl : latE t [] = 0) (hL : LaidOk w) (ha : a < t.n) :
    Calls Tryd.prog 30 #[tabV t ve va vw, .int .i64 a] w fun e w' => ∃ v, e = .returned (.tuple #[v, .int .i64 0]) ∧ w'.ownsRow w.heap.size 3 1 v (partsL t a).length ((ints (partsL t a)).map (Value.int .i64)) ∧ Below w.heap.size w w' := by
  obtain ⟨hfm, hlt, _⟩ := latE_zero hl
  have hle : latE t [(a : Int)] = 0 := by
    unfold latE; rw [hfm, hlt]
    simp only [if_true]
    rw [if_pos]
    simp [inF]; omega
  obtain ⟨W2, hW2⟩ : ∃ W2, W2 = ((w.alloc (.cells #[.string (mkS t.name), ve, va, vw] 26)).alloc (.cells #[.int .i64 a] 3)) := ⟨_, rfl⟩
  have b2 : Below w.heap.size w W2 := by rw [hW2]; exact ((Below.refl _ _).alloc (Nat.le_refl _) _).alloc (by simp) _
  have s2 : RdI W2 (.slice (some ⟨w.heap.size + 1, 0, none⟩) 1 1) [(a : Int)] := by
    refine rdI_newI (ns := [(a : Int)]) (cs := #[.int .i64 a]) (T := 3) (fr := (0, 0)) ?_ (by simp) (by simp) (by simp)
    rw [hW2]
    have := heap_alloc_new (w.alloc (.cells #[.string (mkS t.name), ve, va, vw] 26)) (Obj.cells #[.int .i64 a] 3)
    simpa using this
  have C := lattice_all t ve va vw _ [(a : Int)] W2 (hT.below b2) (frm_small hfm) (hL.below b2) s2
  rw [hle] at C
  replace C := Lib.hid C
  have HLL := Lib.hid hL
  have HW2 := Lib.hid hW2; have HB2 := Lib.hid b2
  obtain ⟨pe, ce, rfl⟩ := hT.e.form
  obtain ⟨pa, ca, rfl⟩ := hT.a.form
  obtain ⟨pw, cw, rfl⟩ := hT.w.form
  have n12 : t.n ≤ 12 := (frm_len hfm).2.1
  obtain ⟨G, hG⟩ : ∃ G, G = parG t a := ⟨_, rfl⟩
  have CA : Hid (∀ W b, Below w.heap.size w W → WalkedAt W b t → Calls Tryd.prog 73 #[.pointer (some ⟨b, 0, none⟩), .int .i64 a] W fun e w' => e = .returned (.int .u16 (G : Nat)) ∧ Below W.heap.size W w') := fun W b h hw => by
    rw [hG]; exact parts_any b t a W hw (HLL.out.below h).tabOk (latF_lat hlt) (frm_acy hfm (latF_lat hlt)) ha
  have CL : Hid (∀ W, Below w.heap.size w W → Calls Tryd.prog 66 #[.int .u16 G] W fun e w' => ∃ v, e = .returned v ∧ w'.ownsRow W.heap.size 3 1 v (partsL t a).length ((ints (partsL t a)).map (Value.int .i64)) ∧ Below W.heap.size W w') := fun W h => by
    have := list_own G W (by rw [hG]; exact grp_lt16 _ (by omega)) (HLL.out.below h).tabOk
    rw [hG, show elems (parG t a) 16 = partsL t a from elems_grp _ (by omega)] at this
    rw [hG]; exact this
  unfold tabV at C ⊢
  clear hT hL hW2 b2 s2 hle hl hfm hlt hG ha n12
  go_enter Tryd.func30, Tryd.ntmps30
  go_wp2_with fail
  rw [← HW2.out]
  refine C.out.mono ?_
  rintro e w1 ⟨p, rfl, hp, hb⟩
  obtain ⟨b, rfl, hw⟩ := hp (by trivial)
  have HB1 := Lib.hid (HB2.out.trans (hb.mono HB2.out.size))
  have HWK := Lib.hid hw
  clear hb hw hp
  go_wp2_with fail
  refine (CA.out _ _ HB1.out HWK.out).mono ?_
  rintro e w2 ⟨rfl, hb⟩
  have HB3 := Lib.hid (HB1.out.trans (hb.mono HB1.out.size))
  clear hb
  go_wp2_with fail
  refine (CL.out _ HB3.out).mono ?_
  rintro e w3 ⟨v, rfl, hv, hb⟩
  have HB4 := Lib.hid (HB3.out.trans (hb.mono HB3.out.size))
  have HV := Lib.hid (ownsRow_base hv HB3.out.size)
  obtain ⟨q, cq, rfl⟩ := ownsRow_slice hv
  clear hb hv
  go_wp2
  go_ret2
  exact ⟨_, rfl, HV.out, HB4.out⟩
end Go.Proofs.YtmooikdodbjgpaaDoor.Or
