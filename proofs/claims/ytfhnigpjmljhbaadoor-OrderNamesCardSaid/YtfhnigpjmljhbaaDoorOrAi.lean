/- Contracts of order.Parts and order.Height. -/
import Derived.Test.YtfhnigpjmljhbaaDoorOrAe
import Derived.Test.YtfhnigpjmljhbaaDoorOrAh
set_option linter.unusedVariables false
set_option linter.unusedSimpArgs false
namespace Go.Proofs.YtfhnigpjmljhbaaDoor.Or
open Go.RowKit Go.Shelf

theorem frm_acy {t : Tab} (h : frmF t = true) (hl : Lat t.R t.n t.wr) : Acy t.R t.n :=
  hl.acy (fun a b c => R_trans h) (fun a b hR => R_rng h hR)
theorem latF_lat {t : Tab} (h : latF t = true) : Lat t.R t.n t.wr := lat_of (by unfold latF at h; exact beq_iff_eq.1 h)

def partsL (t : Tab) (a : Nat) : List Nat := (List.range t.n).filter fun i => parP t a i && parM t a i

set_option maxRecDepth 100000 in
set_option maxHeartbeats 4000000 in
theorem Parts_any (t : Tab) (ve va vw : Value) (a : Int) (w : World) (hT : TabIn w ve va vw t) (hS : Small t) (hL : LaidOk w) :
    Calls Tryd.prog 38 #[tabV t ve va vw, .int .i64 a] w fun e w' => ∃ v, e = .returned (.tuple #[v, .int .i64 (latE t [a] : Nat)]) ∧ RdI w' v (if latE t [a] = 0 then ints (partsL t a.toNat) else []) ∧ Below w.heap.size w w' := by
  obtain ⟨W2, hW2⟩ : ∃ W2, W2 = ((w.alloc (.cells #[.string (mkS t.name), ve, va, vw] 26)).alloc (.cells #[.int .i64 a] 3)) := ⟨_, rfl⟩
  have b2 : Below w.heap.size w W2 := by rw [hW2]; exact ((Below.refl _ _).alloc (Nat.le_refl _) _).alloc (by simp) _
  have s2 : RdI W2 (.slice (some ⟨w.heap.size + 1, 0, none⟩) 1 1) [a] := by
    refine rdI_newI (ns := [a]) (cs := #[.int .i64 a]) (T := 3) (fr := (0, 0)) ?_ (by simp) (by simp) (by simp)
    rw [hW2]
    have := heap_alloc_new (w.alloc (.cells #[.string (mkS t.name), ve, va, vw] 26)) (Obj.cells #[.int .i64 a] 3)
    simpa using this
  have C := Lib.hid (lattice_all t ve va vw _ [a] W2 (hT.below b2) hS (hL.below b2) s2)
  have HLL := Lib.hid hL
  have HW2 := Lib.hid hW2; have HB2 := Lib.hid b2
  obtain ⟨E, hE⟩ : ∃ E, E = latE t [a] := ⟨_, rfl⟩
  rw [← hE] at C ⊢
  have HE := Lib.hid hE
  obtain ⟨pe, ce, rfl⟩ := hT.e.form
  obtain ⟨pa, ca, rfl⟩ := hT.a.form
  obtain ⟨pw, cw, rfl⟩ := hT.w.form
  clear hT hS hL hW2 b2 s2 hE
  unfold tabV at C ⊢
  by_cases e0 : E = 0
  · have hne : ((E : Int) != 0) = false := by rw [bne_eq_false_iff_eq]; omega
    have HE0 := Lib.hid e0
    clear e0
    obtain ⟨hfm, hlt, hall⟩ := latE_zero (HE.out.symm.trans HE0.out)
    simp only [List.all_cons, List.all_nil, Bool.and_true] at hall
    obtain ⟨ka, rfl, ha⟩ := in_nat hall
    have n12 : t.n ≤ 12 := (frm_len hfm).2.1
    obtain ⟨G, hG⟩ : ∃ G, G = parG t ka := ⟨_, rfl⟩
    have CA : Hid (∀ W b, Below w.heap.size w W → WalkedAt W b t → Calls Tryd.prog 78 #[.pointer (some ⟨b, 0, none⟩), .int .i64 ka] W fun e w' => e = .returned (.int .u16 (G : Nat)) ∧ Below W.heap.size W w') := fun W b h hw => by
      rw [hG]; exact parts_any b t ka W hw (HLL.out.below h).tabOk (latF_lat hlt) (frm_acy hfm (latF_lat hlt)) ha
    have CL : Hid (∀ W, Below w.heap.size w W → Calls Tryd.prog 43 #[.int .u16 G] W fun e w' => ∃ v, e = .returned v ∧ RdI w' v (ints (partsL t ka)) ∧ Below W.heap.size W w') := fun W h => by
      have := list_any G W (by rw [hG]; exact grp_lt16 _ (by omega)) (HLL.out.below h).tabOk
      rw [hG, show elems (parG t ka) 16 = partsL t ka from elems_grp _ (by omega)] at this
      rw [hG]; exact this
    clear hfm hall hlt hG ha
    go_enter Tryd.func38, Tryd.ntmps38
    go_wp2_with fail
    rw [← HW2.out]
    refine C.out.mono ?_
    rintro e w1 ⟨p, rfl, hp, hb⟩
    obtain ⟨b, rfl, hw⟩ := hp HE0.out
    have HB1 := Lib.hid (HB2.out.trans (hb.mono HB2.out.size))
    have HWK := Lib.hid hw
    clear hb hw hp
    go_wp2_with fail
    refine (CA.out _ _ HB1.out HWK.out).mono ?_
    rintro e w2 ⟨rfl, hb⟩
    have HB3 := Lib.hid (HB1.out.trans (hb.mono HB1.out.size))
    clear hb
    go_wp2_with fail
    refine (CL.out _ HB3.out).mono ?_
    rintro e w3 ⟨v, rfl, hv, hb⟩
    have HB4 := Lib.hid (HB3.out.trans (hb.mono HB3.out.size))
    have HV := Lib.hid hv
    obtain ⟨q, cq, rfl⟩ := hv.form
    clear hb hv
    go_wp2
    go_ret2
    exact ⟨_, rfl, (by first | exact HV.out | (rw [if_pos HE0.out]; exact HV.out)), HB4.out⟩
  · have hne : ((E : Int) != 0) = true := by rw [bne_iff_ne]; omega
    have HE0 := Lib.hid e0
    clear e0
    go_enter Tryd.func38, Tryd.ntmps38
    go_wp2_with fail
    rw [← HW2.out]
    refine C.out.mono ?_
    rintro e w1 ⟨p, rfl, hp, hb⟩
    have HB1 := Lib.hid (HB2.out.trans (hb.mono HB2.out.size))
    clear hb hp
    go_wp2
    go_ret2
    exact ⟨_, rfl, (by first | exact Rd.nil _ | (rw [if_neg HE0.out]; exact Rd.nil _)), HB1.out⟩


set_option maxRecDepth 100000 in
set_option maxHeartbeats 4000000 in
theorem Height_any (t : Tab) (ve va vw : Value) (w : World) (hT : TabIn w ve va vw t) (hS : Small t) (hL : LaidOk w) :
    Calls Tryd.prog 37 #[tabV t ve va vw] w fun e w' => e = .returned (.tuple #[.int .i64 ((if latE t [] = 0 then hgtC t.R t.n (t.n + 1) 0 else 0 : Nat) : Int), .int .i64 (latE t [] : Nat)]) ∧ Below w.heap.size w w' := by
  obtain ⟨W2, hW2⟩ : ∃ W2, W2 = w.alloc (.cells #[.string (mkS t.name), ve, va, vw] 26) := ⟨_, rfl⟩
  have b2 : Below w.heap.size w W2 := by rw [hW2]; exact (Below.refl _ _).alloc (Nat.le_refl _) _
  have C := Lib.hid (lattice_all t ve va vw (.slice none 0 0) [] W2 (hT.below b2) hS (hL.below b2) (Rd.nil _))
  have HLL := Lib.hid hL
  have HW2 := Lib.hid hW2; have HB2 := Lib.hid b2
  obtain ⟨E, hE⟩ : ∃ E, E = latE t [] := ⟨_, rfl⟩
  rw [← hE] at C ⊢
  have HE := Lib.hid hE
  obtain ⟨pe, ce, rfl⟩ := hT.e.form
  obtain ⟨pa, ca, rfl⟩ := hT.a.form
  obtain ⟨pw, cw, rfl⟩ := hT.w.form
  clear hT hS hL hW2 b2 hE
  unfold tabV at C ⊢
  by_cases e0 : E = 0
  · have hne : ((E : Int) != 0) = false := by rw [bne_eq_false_iff_eq]; omega
    have HE0 := Lib.hid e0
    clear e0
    obtain ⟨hfm, hlt, _⟩ := latE_zero (HE.out.symm.trans HE0.out)
    obtain ⟨H, hH⟩ : ∃ H, H = hgtC t.R t.n (t.n + 1) 0 := ⟨_, rfl⟩
    have n1 : 1 ≤ t.n := (frm_len hfm).1
    have CA : Hid (∀ W b, Below w.heap.size w W → WalkedAt W b t → Calls Tryd.prog 77 #[.pointer (some ⟨b, 0, none⟩), .int .i64 0] W fun e w' => e = .returned (.int .i64 (H : Nat)) ∧ Below W.heap.size W w') := fun W b h hw => by
      rw [hH]; exact height_all b t (frm_acy hfm (latF_lat hlt)) (t.n + 1) 0 W (by have := cnt_le t.R t.n 0; omega) (by omega) hw (HLL.out.below h).tabOk
    rw [← hH]
    clear hfm hlt hH
    go_enter Tryd.func37, Tryd.ntmps37
    go_wp2_with fail
    rw [← HW2.out]
    refine C.out.mono ?_
    rintro e w1 ⟨p, rfl, hp, hb⟩
    obtain ⟨b, rfl, hw⟩ := hp HE0.out
    have HB1 := Lib.hid (HB2.out.trans (hb.mono HB2.out.size))
    have HWK := Lib.hid hw
    clear hb hw hp
    go_wp2_with fail
    refine (CA.out _ _ HB1.out HWK.out).mono ?_
    rintro e w2 ⟨rfl, hb⟩
    have HB3 := Lib.hid (HB1.out.trans (hb.mono HB1.out.size))
    clear hb
    go_wp2
    go_ret2
    exact ⟨by first | rfl | (rw [HE0.out]; rfl), HB3.out⟩
  · have hne : ((E : Int) != 0) = true := by rw [bne_iff_ne]; omega
    have HE0 := Lib.hid e0
    clear e0
    go_enter Tryd.func37, Tryd.ntmps37
    go_wp2_with fail
    rw [← HW2.out]
    refine C.out.mono ?_
    rintro e w1 ⟨p, rfl, hp, hb⟩
    have HB1 := Lib.hid (HB2.out.trans (hb.mono HB2.out.size))
    clear hb hp
    go_wp2
    go_ret2
    exact ⟨by first | rfl | (rw [if_neg HE0.out]; rfl), HB1.out⟩
end Go.Proofs.YtfhnigpjmljhbaaDoor.Or
