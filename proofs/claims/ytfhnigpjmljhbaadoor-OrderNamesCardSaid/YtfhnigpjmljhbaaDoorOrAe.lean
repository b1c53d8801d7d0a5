/- Contracts of order.Below, order.Join, order.Reach. -/
import Derived.Test.YtfhnigpjmljhbaaDoorOrAd
set_option linter.unusedVariables false
set_option linter.unusedSimpArgs false
namespace Go.Proofs.YtfhnigpjmljhbaaDoor.Or
open Go.RowKit Go.Shelf

theorem rdI_newI {W : World} {b : Nat} {ns : List Int} {cs : Array Value} {T : TypeId} {fr : Nat × Nat} {cap : Nat} (h : W.heap[b]? = some (.cells cs T fr)) (hc : cs.toList = ns.map (Value.int .i64)) (hl : ns.length ≤ 1000) (hcap : ns.length ≤ cap) : RdI W (.slice (some ⟨b, 0, none⟩) ns.length cap) ns := by
  have := rd_block (cap := cap) h hc (by simp; omega) (by simp; omega)
  rw [List.length_map] at this
  exact this
theorem in_nat {n : Nat} {x : Int} (h : inF n x = true) : ∃ k : Nat, x = k ∧ k < n := by
  unfold inF at h; simp at h; exact ⟨x.toNat, by omega, by omega⟩
theorem tabE_zero {t : Tab} {es : List Int} (h : tabE t es = 0) : frmF t = true ∧ es.all (inF t.n) = true := by
  unfold tabE at h; split at h
  · rename_i h1; split at h
    · rename_i h2; exact ⟨h1, h2⟩
    · cases h
  · cases h
theorem latE_zero {t : Tab} {es : List Int} (h : latE t es = 0) : frmF t = true ∧ latF t = true ∧ es.all (inF t.n) = true := by
  unfold latE at h; split at h
  · rename_i h1; split at h
    · rename_i h3; split at h
      · rename_i h2; exact ⟨h1, h3, h2⟩
      · cases h
    · cases h
  · cases h
/-- What table and lattice come to, in one. -/
theorem table_all (t : Tab) (ve va vw v : Value) (es : List Int) (w : World) (hT : TabIn w ve va vw t) (hS : Small t) (hL : LaidOk w) (hv : RdI w v es) :
    Calls Tryd.prog 45 #[tabV t ve va vw, v] w fun e w' => ∃ p : Option Addr, e = .returned (.tuple #[.pointer p, .int .i64 (tabE t es)]) ∧ (tabE t es = 0 → ∃ b : Nat, p = some ⟨b, 0, none⟩ ∧ WalkedAt w' b t) ∧ Below w.heap.size w w' := by
  cases hf : frmF t with
  | false =>
    refine (table_no t ve va vw v es w hT hS hL hv hf).mono ?_
    rintro e w' ⟨rfl, hb⟩
    have e4 : tabE t es = 4 := by unfold tabE; rw [hf]; rfl
    exact ⟨none, by rw [e4]; rfl, fun h => by omega, hb⟩
  | true =>
    refine (table_yes t ve va vw v es w hT hS hL hv hf).mono ?_
    rintro e w' ⟨b, rfl, hw, hb⟩
    have e4 : tabE t es = if es.all (inF t.n) then 0 else 7 := by unfold tabE; rw [hf]; rfl
    exact ⟨_, by rw [e4]; split <;> rfl, fun _ => ⟨b, rfl, hw⟩, hb⟩
theorem lattice_all (t : Tab) (ve va vw v : Value) (es : List Int) (w : World) (hT : TabIn w ve va vw t) (hS : Small t) (hL : LaidOk w) (hv : RdI w v es) :
    Calls Tryd.prog 39 #[tabV t ve va vw, v] w fun e w' => ∃ p : Option Addr, e = .returned (.tuple #[.pointer p, .int .i64 (latE t es)]) ∧ (latE t es = 0 → ∃ b : Nat, p = some ⟨b, 0, none⟩ ∧ WalkedAt w' b t) ∧ Below w.heap.size w w' := by
  cases hf : frmF t with
  | false =>
    refine (lattice_no t ve va vw v es w hT hS hL hv hf).mono ?_
    rintro e w' ⟨rfl, hb⟩
    have e4 : latE t es = 4 := by unfold latE; rw [hf]; rfl
    exact ⟨none, by rw [e4]; rfl, fun h => by omega, hb⟩
  | true =>
    cases hl : latF t with
    | false =>
      refine (lattice_broken t ve va vw v es w hT hS hL hv hf hl).mono ?_
      rintro e w' ⟨rfl, hb⟩
      have e4 : latE t es = 12 := by unfold latE; rw [hf, hl]; rfl
      exact ⟨none, by rw [e4]; rfl, fun h => by omega, hb⟩
    | true =>
      refine (lattice_yes t ve va vw v es w hT hS hL hv hf hl).mono ?_
      rintro e w' ⟨b, rfl, hw, hb⟩
      have e4 : latE t es = if es.all (inF t.n) then 0 else 7 := by unfold latE; rw [hf, hl]; rfl
      exact ⟨_, by rw [e4]; split <;> rfl, fun _ => ⟨b, rfl, hw⟩, hb⟩


set_option maxRecDepth 100000 in
set_option maxHeartbeats 4000000 in
theorem Below_any (t : Tab) (ve va vw : Value) (a c : Int) (w : World) (hT : TabIn w ve va vw t) (hS : Small t) (hL : LaidOk w) :
    Calls Tryd.prog 30 #[tabV t ve va vw, .int .i64 a, .int .i64 c] w fun e w' => e = .returned (.tuple #[.bool (decide (tabE t [a, c] = 0) && bel t.R a.toNat c.toNat), .int .i64 (tabE t [a, c] : Nat)]) ∧ Below w.heap.size w w' := by
  obtain ⟨W2, hW2⟩ : ∃ W2, W2 = ((w.alloc (.cells #[.string (mkS t.name), ve, va, vw] 26)).alloc (.cells #[.int .i64 a, .int .i64 c] 3)) := ⟨_, rfl⟩
  have b2 : Below w.heap.size w W2 := by rw [hW2]; exact ((Below.refl _ _).alloc (Nat.le_refl _) _).alloc (by simp) _
  have s2 : RdI W2 (.slice (some ⟨w.heap.size + 1, 0, none⟩) 2 2) [a, c] := by
    refine rdI_newI (ns := [a, c]) (cs := #[.int .i64 a, .int .i64 c]) (T := 3) (fr := (0, 0)) ?_ (by simp) (by simp) (by simp)
    rw [hW2]
    have := heap_alloc_new (w.alloc (.cells #[.string (mkS t.name), ve, va, vw] 26)) (Obj.cells #[.int .i64 a, .int .i64 c] 3)
    simpa using this
  have C := Lib.hid (table_all t ve va vw _ [a, c] W2 (hT.below b2) hS (hL.below b2) s2)
  have HLL := Lib.hid hL
  have HW2 := Lib.hid hW2; have HB2 := Lib.hid b2
  obtain ⟨E, hE⟩ : ∃ E, E = tabE t [a, c] := ⟨_, rfl⟩
  rw [← hE] at C ⊢
  have HE := Lib.hid hE
  obtain ⟨pe, ce, rfl⟩ := hT.e.form
  obtain ⟨pa, ca, rfl⟩ := hT.a.form
  obtain ⟨pw, cw, rfl⟩ := hT.w.form
  clear hT hS hL hW2 b2 s2 hE
  unfold tabV at C ⊢
  by_cases e0 : E = 0
  · have hne : ((E : Int) != 0) = false := by rw [bne_eq_false_iff_eq]; omega
    have HE0 := Lib.hid e0
    clear e0
    obtain ⟨hfm, hall⟩ := tabE_zero (HE.out.symm.trans HE0.out)
    simp only [List.all_cons, List.all_nil, Bool.and_true, Bool.and_eq_true] at hall
    obtain ⟨ka, rfl, ha⟩ := in_nat hall.1
    obtain ⟨kc, rfl, hc⟩ := in_nat hall.2
    have n12 : t.n ≤ 12 := (frm_len hfm).2.1
    obtain ⟨G, hG⟩ : ∃ G, G = upsG t [ka] := ⟨_, rfl⟩
    have CA : Hid (∀ W b o, WalkedAt W b t → W.cell? ⟨o, 0, none⟩ = some (.int .i64 ka) → Calls Tryd.prog 46 #[.pointer (some ⟨b, 0, none⟩), .slice (some ⟨o, 0, none⟩) 1 1] W fun e w' => e = .returned (.int .u16 (G : Nat)) ∧ Below W.heap.size W w') := fun W b o hw ho => by
      rw [hG]; exact above_any b t _ [ka] W hw (rdI_one ho) (by intro x hx; simp at hx; omega)
    have hbit : G.testBit kc = bel t.R ka kc := by rw [hG, upsG_bit t [ka] kc hc]; simp
    have CH : Hid (∀ W, Calls Tryd.prog 65 #[.int .u16 G, .int .i64 kc] W fun e w' => e = .returned (.bool (bel t.R ka kc)) ∧ W = w') := fun W => by
      rw [← hbit]; exact has_any G kc W (by rw [hG]; exact ups_lt t _ n12) (by omega)
    clear hfm hall hG hbit ha hc
    go_enter Tryd.func30, Tryd.ntmps30
    go_wp2_with fail
    rw [← HW2.out]
    refine C.out.mono ?_
    rintro e w1 ⟨p, rfl, hp, hb⟩
    obtain ⟨b, rfl, hw⟩ := hp HE0.out
    have HB1 := Lib.hid (HB2.out.trans (hb.mono HB2.out.size))
    have HWK := Lib.hid hw
    clear hb hw hp
    go_wp2_with fail
    refine (CA.out _ _ _ (HWK.out.below ((Below.refl _ _).alloc (Nat.le_refl _) _)) (by simp [go_sem])).mono ?_
    rintro e w2 ⟨rfl, hb⟩
    have HB3 := Lib.hid ((HB1.out.alloc HB1.out.size _).trans (hb.mono (by simp; have := HB1.out.size; omega)))
    clear hb
    go_wp2_with fail
    refine (CH.out _).mono ?_
    rintro e w3 ⟨rfl, rfl⟩
    go_wp2
    go_ret2
    exact ⟨by rw [HE0.out]; rfl, HB3.out⟩
  · have hne : ((E : Int) != 0) = true := by rw [bne_iff_ne]; omega
    have HE0 := Lib.hid e0
    clear e0
    go_enter Tryd.func30, Tryd.ntmps30
    go_wp2_with fail
    rw [← HW2.out]
    refine C.out.mono ?_
    rintro e w1 ⟨p, rfl, hp, hb⟩
    have HB1 := Lib.hid (HB2.out.trans (hb.mono HB2.out.size))
    clear hb hp
    go_wp2
    go_ret2
    exact ⟨by rw [decide_eq_false HE0.out]; rfl, HB1.out⟩


set_option maxRecDepth 100000 in
set_option maxHeartbeats 4000000 in
theorem Join_any (t : Tab) (ve va vw : Value) (a c : Int) (w : World) (hT : TabIn w ve va vw t) (hS : Small t) (hL : LaidOk w) :
    Calls Tryd.prog 27 #[tabV t ve va vw, .int .i64 a, .int .i64 c] w fun e w' => e = .returned (.tuple #[.int .i64 ((if latE t [a, c] = 0 then (joinO t.R t.n a.toNat c.toNat).getD 0 else 0 : Nat) : Int), .int .i64 (latE t [a, c] : Nat)]) ∧ Below w.heap.size w w' := by
  obtain ⟨W2, hW2⟩ : ∃ W2, W2 = ((w.alloc (.cells #[.string (mkS t.name), ve, va, vw] 26)).alloc (.cells #[.int .i64 a, .int .i64 c] 3)) := ⟨_, rfl⟩
  have b2 : Below w.heap.size w W2 := by rw [hW2]; exact ((Below.refl _ _).alloc (Nat.le_refl _) _).alloc (by simp) _
  have s2 : RdI W2 (.slice (some ⟨w.heap.size + 1, 0, none⟩) 2 2) [a, c] := by
    refine rdI_newI (ns := [a, c]) (cs := #[.int .i64 a, .int .i64 c]) (T := 3) (fr := (0, 0)) ?_ (by simp) (by simp) (by simp)
    rw [hW2]
    have := heap_alloc_new (w.alloc (.cells #[.string (mkS t.name), ve, va, vw] 26)) (Obj.cells #[.int .i64 a, .int .i64 c] 3)
    simpa using this
  have C := Lib.hid (lattice_all t ve va vw _ [a, c] W2 (hT.below b2) hS (hL.below b2) s2)
  have HLL := Lib.hid hL
  have HW2 := Lib.hid hW2; have HB2 := Lib.hid b2
  obtain ⟨E, hE⟩ : ∃ E, E = latE t [a, c] := ⟨_, rfl⟩
  rw [← hE] at C ⊢
  have HE := Lib.hid hE
  obtain ⟨pe, ce, rfl⟩ := hT.e.form
  obtain ⟨pa, ca, rfl⟩ := hT.a.form
  obtain ⟨pw, cw, rfl⟩ := hT.w.form
  clear hT hS hL hW2 b2 s2 hE
  unfold tabV at C ⊢
  by_cases e0 : E = 0
  · have hne : ((E : Int) != 0) = false := by rw [bne_eq_false_iff_eq]; omega
    have HE0 := Lib.hid e0
    clear e0
    obtain ⟨hfm, hlt, hall⟩ := latE_zero (HE.out.symm.trans HE0.out)
    simp only [List.all_cons, List.all_nil, Bool.and_true, Bool.and_eq_true] at hall
    obtain ⟨ka, rfl, ha⟩ := in_nat hall.1
    obtain ⟨kc, rfl, hc⟩ := in_nat hall.2
    obtain ⟨J, hJ⟩ : ∃ J, J = joinO t.R t.n ka kc := ⟨_, rfl⟩
    have CJ : Hid (∀ W b, Below w.heap.size w W → WalkedAt W b t → Calls Tryd.prog 64 #[.pointer (some ⟨b, 0, none⟩), .int .i64 ka, .int .i64 kc] W fun e w' => e = .returned (.tuple #[.int .i64 (J.getD 0), .bool J.isSome]) ∧ Below W.heap.size W w') := fun W b h hw => by
      rw [hJ]; exact join_any b t ka kc W hw (HLL.out.below h).tabOk ha hc
    have HJ := Lib.hid hJ
    clear hfm hlt hall hJ ha hc
    go_enter Tryd.func27, Tryd.ntmps27
    go_wp2_with fail
    rw [← HW2.out]
    refine C.out.mono ?_
    rintro e w1 ⟨p, rfl, hp, hb⟩
    obtain ⟨b, rfl, hw⟩ := hp HE0.out
    have HB1 := Lib.hid (HB2.out.trans (hb.mono HB2.out.size))
    have HWK := Lib.hid hw
    clear hb hw hp
    go_wp2_with fail
    refine (CJ.out _ _ HB1.out HWK.out).mono ?_
    rintro e w2 ⟨rfl, hb⟩
    have HB3 := Lib.hid (HB1.out.trans (hb.mono HB1.out.size))
    clear hb
    go_wp2
    go_ret2
    exact ⟨(show Ending.returned (.tuple #[.int .i64 ((J.getD 0 : Nat) : Int), .int .i64 0]) = _ from by rw [HJ.out]), HB3.out⟩
  · have hne : ((E : Int) != 0) = true := by rw [bne_iff_ne]; omega
    have HE0 := Lib.hid e0
    clear e0
    go_enter Tryd.func27, Tryd.ntmps27
    go_wp2_with fail
    rw [← HW2.out]
    refine C.out.mono ?_
    rintro e w1 ⟨p, rfl, hp, hb⟩
    have HB1 := Lib.hid (HB2.out.trans (hb.mono HB2.out.size))
    clear hb hp
    go_wp2
    go_ret2
    exact ⟨by first | rfl | (rw [if_neg HE0.out]; rfl), HB1.out⟩


set_option maxRecDepth 100000 in
set_option maxHeartbeats 4000000 in
theorem Reach_any (t : Tab) (ve va vw : Value) (a : Int) (w : World) (hT : TabIn w ve va vw t) (hS : Small t) (hL : LaidOk w) :
    Calls Tryd.prog 14 #[tabV t ve va vw, .int .i64 a] w fun e w' => ∃ v, e = .returned (.tuple #[v, .int .i64 (tabE t [a] : Nat)]) ∧ RdI w' v (if tabE t [a] = 0 then ints (ups t.R t.n [a.toNat]) else []) ∧ Below w.heap.size w w' := by
  obtain ⟨W2, hW2⟩ : ∃ W2, W2 = ((w.alloc (.cells #[.string (mkS t.name), ve, va, vw] 26)).alloc (.cells #[.int .i64 a] 3)) := ⟨_, rfl⟩
  have b2 : Below w.heap.size w W2 := by rw [hW2]; exact ((Below.refl _ _).alloc (Nat.le_refl _) _).alloc (by simp) _
  have s2 : RdI W2 (.slice (some ⟨w.heap.size + 1, 0, none⟩) 1 1) [a] := by
    refine rdI_newI (ns := [a]) (cs := #[.int .i64 a]) (T := 3) (fr := (0, 0)) ?_ (by simp) (by simp) (by simp)
    rw [hW2]
    have := heap_alloc_new (w.alloc (.cells #[.string (mkS t.name), ve, va, vw] 26)) (Obj.cells #[.int .i64 a] 3)
    simpa using this
  have C := Lib.hid (table_all t ve va vw _ [a] W2 (hT.below b2) hS (hL.below b2) s2)
  have HLL := Lib.hid hL
  have HW2 := Lib.hid hW2; have HB2 := Lib.hid b2
  obtain ⟨E, hE⟩ : ∃ E, E = tabE t [a] := ⟨_, rfl⟩
  rw [← hE] at C ⊢
  have HE := Lib.hid hE
  obtain ⟨pe, ce, rfl⟩ := hT.e.form
  obtain ⟨pa, ca, rfl⟩ := hT.a.form
  obtain ⟨pw, cw, rfl⟩ := hT.w.form
  clear hT hS hL hW2 b2 s2 hE
  unfold tabV at C ⊢
  by_cases e0 : E = 0
  · have hne : ((E : Int) != 0) = false := by rw [bne_eq_false_iff_eq]; omega
    have HE0 := Lib.hid e0
    clear e0
    obtain ⟨hfm, hall⟩ := tabE_zero (HE.out.symm.trans HE0.out)
    simp only [List.all_cons, List.all_nil, Bool.and_true] at hall
    obtain ⟨ka, rfl, ha⟩ := in_nat hall
    have n12 : t.n ≤ 12 := (frm_len hfm).2.1
    obtain ⟨G, hG⟩ : ∃ G, G = upsG t [ka] := ⟨_, rfl⟩
    have CA : Hid (∀ W b o, WalkedAt W b t → W.cell? ⟨o, 0, none⟩ = some (.int .i64 ka) → Calls Tryd.prog 46 #[.pointer (some ⟨b, 0, none⟩), .slice (some ⟨o, 0, none⟩) 1 1] W fun e w' => e = .returned (.int .u16 (G : Nat)) ∧ Below W.heap.size W w') := fun W b o hw ho => by
      rw [hG]; exact above_any b t _ [ka] W hw (rdI_one ho) (by intro x hx; simp at hx; omega)
    have CL : Hid (∀ W, Below w.heap.size w W → Calls Tryd.prog 43 #[.int .u16 G] W fun e w' => ∃ v, e = .returned v ∧ RdI w' v (ints (ups t.R t.n [ka])) ∧ Below W.heap.size W w') := fun W h => by
      have := list_any G W (by rw [hG]; exact ups_lt t _ n12) (HLL.out.below h).tabOk
      rw [hG, show elems (upsG t [ka]) 16 = ups t.R t.n [ka] from elems_ups t.R [ka] (by omega)] at this
      rw [hG]; exact this
    clear hfm hall hG ha
    go_enter Tryd.func14, Tryd.ntmps14
    go_wp2_with fail
    rw [← HW2.out]
    refine C.out.mono ?_
    rintro e w1 ⟨p, rfl, hp, hb⟩
    obtain ⟨b, rfl, hw⟩ := hp HE0.out
    have HB1 := Lib.hid (HB2.out.trans (hb.mono HB2.out.size))
    have HWK := Lib.hid hw
    clear hb hw hp
    go_wp2_with fail
    refine (CA.out _ _ _ (HWK.out.below ((Below.refl _ _).alloc (Nat.le_refl _) _)) (by simp [go_sem])).mono ?_
    rintro e w2 ⟨rfl, hb⟩
    have HB3 := Lib.hid ((HB1.out.alloc HB1.out.size _).trans (hb.mono (by simp; have := HB1.out.size; omega)))
    clear hb
    go_wp2_with fail
    refine (CL.out _ HB3.out).mono ?_
    rintro e w3 ⟨v, rfl, hv, hb⟩
    have HB4 := Lib.hid (HB3.out.trans (hb.mono HB3.out.size))
    have HV := Lib.hid hv
    obtain ⟨q, cq, rfl⟩ := hv.form
    clear hb hv
    go_wp2
    go_ret2
    exact ⟨_, rfl, (by first | exact HV.out | (rw [if_pos HE0.out]; exact HV.out)), HB4.out⟩
  · have hne : ((E : Int) != 0) = true := by rw [bne_iff_ne]; omega
    have HE0 := Lib.hid e0
    clear e0
    go_enter Tryd.func14, Tryd.ntmps14
    go_wp2_with fail
    rw [← HW2.out]
    refine C.out.mono ?_
    rintro e w1 ⟨p, rfl, hp, hb⟩
    have HB1 := Lib.hid (HB2.out.trans (hb.mono HB2.out.size))
    clear hb hp
    go_wp2
    go_ret2
    exact ⟨_, rfl, (by first | exact Rd.nil _ | (rw [if_neg HE0.out]; exact Rd.nil _)), HB1.out⟩

end Go.Proofs.YtfhnigpjmljhbaaDoor.Or
