/- order's exported Primes. -/
import Derived.Test.YtmooikdodbjgpaaDoorOrAi
set_option linter.unusedVariables false
set_option linter.unusedSimpArgs false
namespace Go.Proofs.YtmooikdodbjgpaaDoor.Or
open Go.RowKit Go.Shelf

set_option maxRecDepth 100000 in
set_option maxHeartbeats 4000000 in
theorem Primes_any (t : Tab) (ve va vw : Value) (w : World) (hT : TabIn w ve va vw t) (hS : Small t) (hL : LaidOk w) :
    Calls Tryd.prog 29 #[tabV t ve va vw] w fun e w' => ∃ v, e = .returned (.tuple #[v, .int .i64 (latE t [] : Nat)]) ∧ RdI w' v (if latE t [] = 0 then ints ((List.range t.n).filter (primeO t.R t.n)) else []) ∧ Below w.heap.size w w' := by
  obtain ⟨W2, hW2⟩ : ∃ W2, W2 = w.alloc (.cells #[.string (mkS t.name), ve, va, vw] 26) := ⟨_, rfl⟩
  have b2 : Below w.heap.size w W2 := by rw [hW2]; exact (Below.refl _ _).alloc (Nat.le_refl _) _
  have C := Lib.hid (lattice_all t ve va vw (.slice none 0 0) [] W2 (hT.below b2) hS (hL.below b2) (Rd.nil _))
  have HLL := Lib.hid hL
  have HW2 := Lib.hid hW2; have HB2 := Lib.hid b2
  obtain ⟨E, hE⟩ : ∃ E, E = latE t [] := ⟨_, rfl⟩
  rw [← hE] at C ⊢
  have HE := Lib.hid hE
  obtain ⟨pe, ce, rfl⟩ := hT.e.form
  obtain ⟨pa, ca, rfl⟩ := hT.a.form
  obtain ⟨pw, cw, rfl⟩ := hT.w.form
  clear hT hS hL hW2 b2 hE
  unfold tabV at C ⊢
  by_cases e0 : E = 0
  · have hne : ((E : Int) != 0) = false := by rw [bne_eq_false_iff_eq]; omega
    have HE0 := Lib.hid e0
    clear e0
    obtain ⟨hfm, hlt, _⟩ := latE_zero (HE.out.symm.trans HE0.out)
    have n12 : t.n ≤ 12 := (frm_len hfm).2.1
    obtain ⟨G, hG⟩ : ∃ G, G = primG t := ⟨_, rfl⟩
    have CA : Hid (∀ W b, Below w.heap.size w W → WalkedAt W b t → Calls Tryd.prog 72 #[.pointer (some ⟨b, 0, none⟩)] W fun e w' => e = .returned (.int .u16 (G : Nat)) ∧ Below W.heap.size W w') := fun W b h hw => by
      rw [hG]; exact primes_any b t W hw (HLL.out.below h).tabOk (latF_lat hlt) (frm_acy hfm (latF_lat hlt))
    have CL : Hid (∀ W, Below w.heap.size w W → Calls Tryd.prog 66 #[.int .u16 G] W fun e w' => ∃ v, e = .returned v ∧ RdI w' v (ints ((List.range t.n).filter (primeO t.R t.n))) ∧ Below W.heap.size W w') := fun W h => by
      have := list_any G W (by rw [hG]; exact grp_lt16 _ (by omega)) (HLL.out.below h).tabOk
      rw [hG, show elems (primG t) 16 = (List.range t.n).filter (primeO t.R t.n) from elems_grp _ (by omega)] at this
      rw [hG]; exact this
    clear hfm hlt hG
    go_enter Tryd.func29, Tryd.ntmps29
    go_wp2_with fail
    rw [← HW2.out]
    refine C.out.mono ?_
    rintro e w1 ⟨p, rfl, hp, hb⟩
    obtain ⟨b, rfl, hw⟩ := hp HE0.out
    have HB1 := Lib.hid (HB2.out.trans (hb.mono HB2.out.size))
    have HWK := Lib.hid hw
    clear hb hw hp
    go_wp2_with fail
    refine (CA.out _ _ HB1.out HWK.out).mono ?_
    rintro e w2 ⟨rfl, hb⟩
    have HB3 := Lib.hid (HB1.out.trans (hb.mono HB1.out.size))
    clear hb
    go_wp2_with fail
    refine (CL.out _ HB3.out).mono ?_
    rintro e w3 ⟨v, rfl, hv, hb⟩
    have HB4 := Lib.hid (HB3.out.trans (hb.mono HB3.out.size))
    have HV := Lib.hid hv
    obtain ⟨q, cq, rfl⟩ := hv.form
    clear hb hv
    go_wp2
    go_ret2
    exact ⟨_, rfl, (by first | exact HV.out | (rw [if_pos HE0.out]; exact HV.out)), HB4.out⟩
  · have hne : ((E : Int) != 0) = true := by rw [bne_iff_ne]; omega
    have HE0 := Lib.hid e0
    clear e0
    go_enter Tryd.func29, Tryd.ntmps29
    go_wp2_with fail
    rw [← HW2.out]
    refine C.out.mono ?_
    rintro e w1 ⟨p, rfl, hp, hb⟩
    have HB1 := Lib.hid (HB2.out.trans (hb.mono HB2.out.size))
    clear hb hp
    go_wp2
    go_ret2
    exact ⟨_, rfl, (by first | exact Rd.nil _ | (rw [if_neg HE0.out]; exact Rd.nil _)), HB1.out⟩
end Go.Proofs.YtmooikdodbjgpaaDoor.Or
