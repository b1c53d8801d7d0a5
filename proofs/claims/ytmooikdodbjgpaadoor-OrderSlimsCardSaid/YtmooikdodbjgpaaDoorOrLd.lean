/- The reference's Slim: the walk. -/
import Derived.Test.YtmooikdodbjgpaaDoorOrLc
import Derived.Deep.CutRange
import Derived.Deep.RegionLaw
import Derived.Deep.Cut
set_option linter.unusedVariables false
set_option linter.unusedSimpArgs false
namespace Go.Proofs.YtmooikdodbjgpaaDoor.Or
open Go.RowKit Go.Shelf

/-- Whether b is right above a, as far as c was looked at. -/
def rbF (R : Nat → Nat → Bool) (a b c : Nat) : Bool := R a b && !(List.range c).any fun x => R a x && R x b
theorem rbF_zero (R : Nat → Nat → Bool) (a b : Nat) : rbF R a b 0 = R a b := by simp [rbF]
theorem rbF_succ (R : Nat → Nat → Bool) (a b c : Nat) : rbF R a b (c + 1) = (rbF R a b c && !(R a c && R c b)) := by
  unfold rbF
  rw [List.range_succ, List.any_append]
  simp only [List.any_cons, List.any_nil, Bool.or_false, Bool.not_or]
  cases R a b <;> simp
theorem rbF_cov (R : Nat → Nat → Bool) (n a b : Nat) : rbF R a b n = cov R n a b := rfl
theorem filt_yes {p : Nat → Bool} {b : Nat} (h : p b = true) : (List.range (b + 1)).filter p = (List.range b).filter p ++ [b] := by
  rw [List.range_succ, List.filter_append, List.filter_cons, h]; rfl
theorem filt_no {p : Nat → Bool} {b : Nat} (h : p b = false) : (List.range (b + 1)).filter p = (List.range b).filter p := by
  rw [List.range_succ, List.filter_append, List.filter_cons, h]; simp
theorem RdT.diffG {w V : World} {e T : TypeId} {v : Value} {vs : List Value} {g : Nat} {cs : Array Value} {fr : Nat × Nat} (h : RdT w e v vs) (hg : w.heap[g]? = some (.cells cs T fr)) (hne : e ≠ T) (hd : Diff (fun k => k = g) w V) : RdT V e v vs := by
  obtain ⟨u, cap, cs', fr', h1, hu, h2⟩ := h
  refine ⟨u, cap, cs', fr', h1, ?_, h2⟩
  exact (hd.block u (heap_lt hu) (fun e' => by subst e'; rw [hu] at hg; injection hg with hg; injection hg with _ hg _; exact hne hg)).trans hu
theorem heap_set4_ne {V : World} {z g : Nat} {cs zs : Array Value} {T U : TypeId} {fr fr' : Nat × Nat} {y0 y1 y2 y3 : Value} (hg : V.heap[g]? = some (.cells cs T fr)) (hz : V.heap[z]? = some (.cells zs U fr')) (hne : T ≠ U) : (set4 V z y0 y1 y2 y3).heap[g]? = some (.cells cs T fr) := by
  have hgz : g ≠ z := fun e => by subst e; rw [hg] at hz; injection hz with hz; injection hz with _ hz _; exact hne hz
  unfold set4
  rw [Below.heap_setCell _ _ _ _ hgz, Below.heap_setCell _ _ _ _ hgz, Below.heap_setCell _ _ _ _ hgz, Below.heap_setCell _ _ _ _ hgz]
  exact hg
theorem RsA.rd4 {W4 V : World} {g n cap z : Nat} {PT : Nat → List Nat} {T : Tab} {zs : Array Value} {fr : Nat × Nat} {y0 y1 y2 y3 : Value} (h : RsA W4 g n PT n V) (hz : V.heap[z]? = some (.cells zs 26 fr)) (hk : n = T.above.length) (hcap : n ≤ cap) (hP : ∀ i, i < n → T.above.getD i [] = ints (PT i)) (hPl : ∀ i, i < n → (PT i).length ≤ 20) (h2 : n ≤ 20) :
    RdII (set4 V z y0 y1 y2 y3) (.slice (some ⟨g, 0, none⟩) n cap) T.above := by
  obtain ⟨cs, hg, hn, hr⟩ := h.row
  have h3 : RsA (set4 V z y0 y1 y2 y3) g n PT n (set4 V z y0 y1 y2 y3) := ⟨⟨cs, heap_set4_ne hg hz (by decide), hn, fun i hi => by
    obtain ⟨x, hx, ho⟩ := hr i hi
    exact ⟨x, hx, ownsRow_set4 ho hz (by decide)⟩⟩, Diff.refl _ _⟩
  exact h3.rd hk hcap hP hPl h2
theorem owns_some {w : World} {base n : Nat} {e : TypeId} {v : Value} {xs : List Value} (h : w.ownsRow base e 1 v n xs) (hn : 0 < n) : ∃ g cap cs, v = .slice (some ⟨g, 0, none⟩) n cap ∧ base ≤ g ∧ w.heap[g]? = some (.cells cs e (0, 0)) ∧ n ≤ cap ∧ n ≤ cs.size := by
  rcases h.2 with ⟨_, h0⟩ | ⟨g, cap, cs, h1, h2, h3, h4, h5, h6, h7⟩
  · omega
  · exact ⟨g, cap, cs, h1, h2, h3, h4, by omega⟩

set_option maxRecDepth 100000 in
set_option maxHeartbeats 8000000 in
theorem refSlim_any (t : Tab) (ve va vw : Value) (w : World) (hT : TabIn w ve va vw t) (hS : Small t) (hl1 : t.elems.length ≤ 20) (hl2 : t.above.length ≤ 20) (hl3 : t.wrong.length ≤ 20) (hl4 : ∀ l ∈ t.above, l.length ≤ 20) :
    Calls Tryd.prog 38 #[tabV t ve va vw] w fun e w' => ∃ xe xa xw, e = .returned (.tuple #[tabV (slimF t) xe xa xw, .int .i64 (latE t [] : Nat)]) ∧ TabIn w' xe xa xw (slimF t) ∧ Below w.heap.size w w' := by
  obtain ⟨iI, hIi, hI0, hI1, hI2⟩ := info_parts infoI
  obtain ⟨W2, hW2⟩ : ∃ W2, W2 = (w.alloc (.cells #[.string (mkS t.name), ve, va, vw] 26)).alloc (.cells #[.string ⟨#[]⟩, .slice none 0 0, .slice none 0 0, .slice none 0 0] 26) := ⟨_, rfl⟩
  have b2 : Below w.heap.size w W2 := by rw [hW2]; exact ((Below.refl _ _).alloc (Nat.le_refl _) _).alloc (by simp) _
  have z2 : W2.heap[w.heap.size + 1]? = some (Obj.cells #[.string ⟨#[]⟩, .slice none 0 0, .slice none 0 0, .slice none 0 0] 26 (0, 0)) := by rw [hW2]; exact heap_alloc_at (by simp only [alloc_size])
  have CT : Hid (∀ W, Below w.heap.size w W → Calls Tryd.prog 55 #[tabV t ve va vw] W fun e w' => e = .returned (.int .i64 (latE t [])) ∧ Below W.heap.size W w') := fun W h => isLattice_any t ve va vw W (hT.below h) hS
  have CC : Hid (∀ W, Below w.heap.size w W → Calls Tryd.prog 17 #[tabV t ve va vw] W fun e w' => ∃ ve' va' vw', e = .returned (tabV t ve' va' vw') ∧ TabIn w' ve' va' vw' t ∧ Below W.heap.size W w' ∧ CopyOwn W w' t ve' va' vw') := fun W h => copy_own t ve va vw W (hT.below h) hl1 hl2 hl3 hl4
  have k0 : W2.cell? ⟨w.heap.size, 0, none⟩ = some (.string (mkS t.name)) := by rw [hW2]; simp [go_sem]
  have k1 : W2.cell? ⟨w.heap.size, 1, none⟩ = some ve := by rw [hW2]; simp [go_sem]
  have k2 : W2.cell? ⟨w.heap.size, 2, none⟩ = some va := by rw [hW2]; simp [go_sem]
  have k3 : W2.cell? ⟨w.heap.size, 3, none⟩ = some vw := by rw [hW2]; simp [go_sem]
  have s2 : W2.heap.size = w.heap.size + 2 := by rw [hW2]; simp
  have HTT := Lib.hid hT
  have HW2 := Lib.hid hW2; have HB2 := Lib.hid b2; have Z2 := Lib.hid z2; have HS2 := Lib.hid s2
  obtain ⟨E, hE⟩ : ∃ E, E = latE t [] := ⟨_, rfl⟩
  rw [← hE] at CT
  have HE := Lib.hid hE
  obtain ⟨pe, ce, rfl⟩ := hT.e.form
  obtain ⟨pa, ca, rfl⟩ := hT.a.form
  obtain ⟨pw, cw, rfl⟩ := hT.w.form
  rw [← hE]
  have KS : Hid (∀ V, Below W2.heap.size W2 V → V.cell? ⟨w.heap.size, 0, none⟩ = some (.string (mkS t.name)) ∧ V.cell? ⟨w.heap.size, 1, none⟩ = some (.slice pe t.elems.length ce) ∧ V.cell? ⟨w.heap.size, 2, none⟩ = some (.slice pa t.above.length ca) ∧ V.cell? ⟨w.heap.size, 3, none⟩ = some (.slice pw t.wrong.length cw)) := fun V h =>
    ⟨(h.cell (cell_lt k0)).trans k0, (h.cell (cell_lt k1)).trans k1, (h.cell (cell_lt k2)).trans k2, (h.cell (cell_lt k3)).trans k3⟩
  have HBW : Hid (∀ V, Below W2.heap.size W2 V → Below w.heap.size w V) := fun V h => b2.trans (h.mono b2.size)
  clear hT hS hW2 b2 z2 hE k0 k1 k2 k3 s2 hl1 hl2 hl3 hl4
  by_cases e0 : E = 0
  · have hne : ((E : Int) != 0) = false := by rw [bne_eq_false_iff_eq]; omega
    have HE0 := Lib.hid e0
    clear e0
    obtain ⟨hfm, hlt, _⟩ := latE_zero (HE.out.symm.trans HE0.out)
    obtain ⟨f1, f2, f3, f4⟩ := frm_len hfm
    obtain ⟨n, hn⟩ : ∃ n, n = t.n := ⟨_, rfl⟩
    obtain ⟨R, hR⟩ : ∃ R, R = t.R := ⟨_, rfl⟩
    have hnE : t.elems.length = n := by rw [hn]; rfl
    have hnW : t.wrong.length = n := by rw [f4, hn]; rfl
    have hnA : t.above.length = n := by rw [f3, hn]; rfl
    have n12 : n ≤ 12 := by omega
    have n1 : 1 ≤ n := by omega
    obtain ⟨PT, hPT⟩ : ∃ PT : Nat → List Nat, PT = fun a => (List.range n).filter (cov R n a) := ⟨_, rfl⟩
    have CS : Hid (∀ W (a b : Nat), Below w.heap.size w W → a < n → b < n → Calls Tryd.prog 84 #[tabV t (.slice pe t.elems.length ce) (.slice pa t.above.length ca) (.slice pw t.wrong.length cw), .int .i64 a, .int .i64 b] W fun e w' => e = .returned (.bool (R a b)) ∧ Below W.heap.size W w') := fun W a b h ha hb => by
      rw [hR]; exact steps_any t _ _ _ a b W (HTT.out.below h) hfm (by omega) (by omega)
    have HPT := Lib.hid hPT; have HN := Lib.hid hn; have HR := Lib.hid hR; have HNE := Lib.hid hnE; have HNW := Lib.hid hnW; have HNA := Lib.hid hnA
    have HF := Lib.hid hfm
    unfold tabV at CT CC CS ⊢
    rw [hnE, hnA, hnW] at CT CC CS KS HW2 ⊢
    clear hfm hlt hPT hn hR hnE hnW hnA f1 f2 f3 f4 HTT
    go_enter Tryd.func38, Tryd.ntmps38
    go_wp2_with fail
    rw [← HW2.out]
    refine (CT.out _ HB2.out).mono ?_
    rintro e w1 ⟨rfl, hb⟩
    have HD1 : Hid (Below W2.heap.size W2 w1) := hb
    clear hb CT
    obtain ⟨k0, k1, k2, k3⟩ := KS.out _ HD1.out
    go_wp2_with fail
    refine (CC.out _ (HBW.out _ HD1.out)).mono ?_
    rintro e w3 ⟨ve', va', vw', rfl, hT3, hb3, ho⟩
    have HD3 := Lib.hid (HD1.out.trans (hb3.mono HD1.out.size))
    obtain ⟨xs0, hrow⟩ := ho.row
    rw [HNA.out] at hrow
    obtain ⟨g, cap, cs0, rfl, hg0, hgh, hncap, hncs⟩ := owns_some hrow n1
    have RE := Lib.hid ho.e; have RW := Lib.hid ho.w
    obtain ⟨uE, cE, rfl⟩ := ho.e.form
    obtain ⟨uW, cW, rfl⟩ := ho.w.form
    have eE : (t.elems.map strV).length = n := by rw [List.length_map]; exact HNE.out
    have eW : (t.wrong.map Value.bool).length = n := by rw [List.length_map]; exact HNW.out
    rw [eE] at RE
    rw [eW] at RW
    rw [eE, eW]
    obtain ⟨W4, hW4⟩ : ∃ W4, W4 = w3.alloc (.cells #[.string (mkS t.name), .slice (some ⟨uE, 0, none⟩) n cE, .slice (some ⟨g, 0, none⟩) n cap, .slice (some ⟨uW, 0, none⟩) n cW] 26) := ⟨_, rfl⟩
    have b4 : Below w3.heap.size w3 W4 := by rw [hW4]; exact (Below.refl _ _).alloc (Nat.le_refl _) _
    have hq4 : W4.heap[w3.heap.size]? = some (.cells #[.string (mkS t.name), .slice (some ⟨uE, 0, none⟩) n cE, .slice (some ⟨g, 0, none⟩) n cap, .slice (some ⟨uW, 0, none⟩) n cW] 26 (0, 0)) := by rw [hW4]; exact heap_alloc_at rfl
    have hg4 := heap_below b4 hgh
    have lg : g < w3.heap.size := heap_lt hgh
    have lg2 : W2.heap.size ≤ g := Nat.le_trans HD1.out.size hg0
    obtain ⟨q, hq⟩ : ∃ q, q = w3.heap.size := ⟨_, rfl⟩
    have HQE := Lib.hid hq
    rw [← hq] at hq4
    have lgq : g < q := by omega
    have RE4 := Lib.hid (RE.out.below b4); have RW4 := Lib.hid (RW.out.below b4)
    have HG4 := Lib.hid hg4
    have HBg : Hid (∀ V, Diff (fun k => k = g) W4 V → Below W2.heap.size W2 V) := fun V h =>
      (HD3.out.trans (b4.mono HD3.out.size)).trans (Diff.below h (Nat.le_trans HD3.out.size b4.size) (fun k hk e => by omega))
    have HQ : Hid (∀ V, Diff (fun k => k = g) W4 V → V.heap[q]? = some (.cells #[.string (mkS t.name), .slice (some ⟨uE, 0, none⟩) n cE, .slice (some ⟨g, 0, none⟩) n cap, .slice (some ⟨uW, 0, none⟩) n cW] 26 (0, 0))) := fun V h =>
      (h.block q (heap_lt hq4) (by omega)).trans hq4
    have HA0 : Hid (RsA W4 g n PT 0 W4) := ⟨⟨cs0, hg4, hncs, fun i hi => absurd hi (by omega)⟩, Diff.refl _ _⟩
    have HW4 := Lib.hid hW4
    clear hb3 hT3 ho hrow hgh hg0 hg4 hq4 hW4 b4 RE RW eE eW hncs hq k0 k1 k2 k3 lg lg2 CC
    obtain ⟨_, k1, _, _⟩ := KS.out _ (HBg.out _ HA0.out.diff)
    go_wp2_with fail
    rw [← HQE.out]
    rw [← HW4.out]
    go_loopw [6] (fun i wr => ∃ a : Nat, a ≤ n ∧ i = .int .i64 a ∧ Hid (RsA W4 g n PT a wr)) (fun i _ => n - (intOf i).toNat)
    case atStart => exact ⟨0, Nat.zero_le _, rfl, HA0.out⟩
    case round =>
      clear k1
      obtain ⟨a, ha, rfl, hA⟩ := hrel
      obtain ⟨_, k1, _, _⟩ := KS.out _ (HBg.out _ hA.out.diff)
      by_cases hlt : a < n
      · obtain ⟨cs, hgr, hnc, hrr⟩ := hA.out.row
        obtain ⟨⟨_, _, r2, _⟩, _⟩ := four_cells (HQ.out _ hA.out.diff)
        have hca : wr.cell? ⟨g, a, none⟩ = some (cs[a]'(by omega)) := by
          rw [Go.Joins.cell_of_block hgr a]; simp [show a < cs.size by omega]
        obtain ⟨xo, hxo⟩ : ∃ x, x = cs[a]'(by omega) := ⟨_, rfl⟩
        rw [← hxo] at hca
        have hfa : wr.frozen? ⟨g, a, none⟩ = false := Go.Joins.unfrozen_of_block hgr a
        have HGR := Lib.hid hgr; have HNC := Lib.hid hnc; have HRR := Lib.hid hrr
        have HB0 : Hid (RsB wr g a cs (.slice none 0 0) [] (wr.setCell ⟨g, a, none⟩ (.slice none 0 0))) := RsB.start hgr
        obtain ⟨WA, hWA⟩ : ∃ U, U = wr := ⟨_, rfl⟩
        subst hWA
        obtain ⟨WS, hWS⟩ : ∃ U, U = WA.setCell ⟨g, a, none⟩ (.slice none 0 0) := ⟨_, rfl⟩
        rw [← hWS] at HB0
        have HWS := Lib.hid hWS
        have HBa : Hid (∀ V, Diff (fun k => k = g) WA V → Below W2.heap.size W2 V) := fun V h => HBg.out V (hA.out.diff.trans h)
        have HQa : Hid (∀ V, Diff (fun k => k = g) WA V → V.heap[q]? = some (.cells #[.string (mkS t.name), .slice (some ⟨uE, 0, none⟩) n cE, .slice (some ⟨g, 0, none⟩) n cap, .slice (some ⟨uW, 0, none⟩) n cW] 26 (0, 0))) := fun V h => HQ.out V (hA.out.diff.trans h)
        have HDA := Lib.hid hA.out.diff
        have hacs : a < cs.size := by omega
        clear hxo hgr hnc hrr hWS hA
        go_wp2_with fail
        rw [← HWS.out]
        clear k1 r2 hca hfa
        go_loopw [7] (fun i wx => ∃ (b : Nat) (l : Value), b ≤ n ∧ i = .int .i64 b ∧ Hid (RsB WA g a cs l ((List.range b).filter (cov R n a)) wx)) (fun i _ => n - (intOf i).toNat)
        case atStart => exact ⟨0, _, Nat.zero_le _, rfl, HB0.out⟩
        case round =>
          obtain ⟨b, l, hb, rfl, hB⟩ := hrel
          obtain ⟨k0, k1, k2, k3⟩ := KS.out _ (HBa.out _ hB.out.diff)
          by_cases hltb : b < n
          · go_wp2_with fail
            refine (CS.out _ a b (HBW.out _ (HBa.out _ hB.out.diff)) hlt hltb).mono ?_
            rintro e w5 ⟨rfl, hb5⟩
            have HB5 := Lib.hid (hB.out.below hb5)
            clear hb5 k0 k1 k2 k3 hB
            obtain ⟨_, k1, _, _⟩ := KS.out _ (HBa.out _ HB5.out.diff)
            rw [← rbF_zero R a b]
            obtain ⟨rb0, hrb0⟩ : ∃ x, x = rbF R a b 0 := ⟨_, rfl⟩
            rw [← hrb0]
            have HRB0 := Lib.hid hrb0
            clear hrb0
            go_wp2_with fail
            go_loopw [8, 9] (fun r i wx => ∃ c : Nat, c ≤ n ∧ i = .int .i64 c ∧ r = .bool (rbF R a b c) ∧ Hid (Below w5.heap.size w5 wx)) (fun _ i _ => n - (intOf i).toNat)
            case atStart => exact ⟨0, Nat.zero_le _, rfl, by rw [HRB0.out], Below.refl _ _⟩
            case round =>
              clear k1
              obtain ⟨c, hc, rfl, rfl, hbc⟩ := hrel
              have HB6 := Lib.hid (HB5.out.below hbc.out)
              have HBc := Lib.hid (HBa.out _ HB6.out.diff)
              obtain ⟨k0, k1, k2, k3⟩ := KS.out _ HBc.out
              by_cases hltc : c < n
              · obtain ⟨rb, hrb⟩ : ∃ x, x = rbF R a b c := ⟨_, rfl⟩
                rw [← hrb]
                have HRB := Lib.hid (rbF_succ R a b c)
                rw [← hrb] at HRB
                clear hrb
                cases rb with
                | false =>
                  go_wp2
                  go_roundw
                  case rel => exact ⟨c + 1, by omega, by go_num, by rw [HRB.out]; rfl, hbc⟩
                  case measure => simp [intOf]; omega
                | true =>
                  go_wp2_with fail
                  refine (CS.out _ a c (HBW.out _ HBc.out) hlt hltc).mono ?_
                  rintro e w6 ⟨rfl, hb6⟩
                  have HD6 := Lib.hid (hbc.out.trans (hb6.mono hbc.out.size))
                  have HBd := Lib.hid (HBc.out.trans (hb6.mono HBc.out.size))
                  clear hb6 k0 k1 k2 k3
                  obtain ⟨k0, k1, k2, k3⟩ := KS.out _ HBd.out
                  obtain ⟨r1, hr1⟩ : ∃ x, x = R a c := ⟨_, rfl⟩
                  rw [← hr1]
                  rw [← hr1] at HRB
                  clear hr1
                  cases r1 with
                  | false =>
                    go_wp2
                    go_roundw
                    case rel => exact ⟨c + 1, by omega, by go_num, by rw [HRB.out]; rfl, HD6⟩
                    case measure => simp [intOf]; omega
                  | true =>
                    go_wp2_with fail
                    refine (CS.out _ c b (HBW.out _ HBd.out) hltc hltb).mono ?_
                    rintro e w7 ⟨rfl, hb7⟩
                    have HD7 := Lib.hid (HD6.out.trans (hb7.mono HD6.out.size))
                    clear hb7 k0 k1 k2 k3
                    obtain ⟨r1, hr1⟩ : ∃ x, x = R c b := ⟨_, rfl⟩
                    rw [← hr1]
                    rw [← hr1] at HRB
                    clear hr1
                    go_wp2
                    go_roundw
                    case rel => exact ⟨c + 1, by omega, by go_num, by rw [HRB.out]; cases r1 <;> rfl, HD7⟩
                    case measure => simp [intOf]; omega
              · have hcn : c = n := by omega
                rw [hcn, rbF_cov]
                obtain ⟨lb, hlb⟩ : ∃ lb, lb = (List.range b).filter (cov R n a) := ⟨_, rfl⟩
                rw [← hlb] at HB6
                have HLB := Lib.hid hlb
                have hlbl : lb.length ≤ 12 := by
                  have := List.length_filter_le (cov R n a) (List.range b)
                  rw [hlb, List.length_range] at *
                  omega
                cases hcv : cov R n a b with
                | false =>
                  have HB7 : Hid (RsB WA g a cs l ((List.range (b + 1)).filter (cov R n a)) wr) := by rw [filt_no hcv, ← HLB.out]; exact HB6.out
                  clear hlb hcv hcn k0 k2 k3
                  go_wp2
                  go_roundw
                  case rel => exact ⟨b + 1, l, by omega, by go_num, HB7⟩
                  case measure => simp [intOf]; omega
                | true =>
                  have HF2 : Hid ((List.range (b + 1)).filter (cov R n a) = lb ++ [b]) := by rw [hlb]; exact filt_yes hcv
                  obtain ⟨⟨_, _, r2, _⟩, _⟩ := four_cells (HQa.out _ HB6.out.diff)
                  obtain ⟨pl, cl, rfl⟩ := ownsRow_slice HB6.out.own
                  have hgr := HB6.out.heap
                  have hca : wr.cell? ⟨g, a, none⟩ = some (.slice pl lb.length cl) := by rw [Go.Joins.cell_of_block hgr a]; simp [hacs]
                  have hfa : wr.frozen? ⟨g, a, none⟩ = false := Go.Joins.unfrozen_of_block hgr a
                  have HOW := Lib.hid HB6.out.own; have HGH := Lib.hid hgr
                  have HQH := Lib.hid (HQa.out _ HB6.out.diff)
                  have lgr : g < wr.heap.size := heap_lt hgr
                  have lqr : q < wr.heap.size := heap_lt HQH.out
                  have sA := HB6.out.diff.size
                  clear hlb hcv hcn k0 k2 k3 hgr
                  go_wp2_with fail
                  go_region_law (with_reducible refine only_app 39 ?_; refine step_append_rd rfl _ _ 39 3 rfl iI _ 8 Tryd.underlying39 hIi hI0 hI1 hI2 rfl (by decide) WA.heap.size (.slice pl lb.length cl) (.slice (some ⟨wr.heap.size, 0, none⟩) 1 1) lb.length ((ints lb).map (Value.int .i64)) [.int .i64 (b : Nat)] rfl (ownsRow_below HOW.out (show Below wr.heap.size wr _ from (by repeat (first | with_reducible exact Below.refl _ _ | with_reducible refine Below.drew ?_ | with_reducible refine below_alloc ?_ _ | refine below_step (by with_reducible assumption) ?_ (Nat.le_refl _))))) rfl (rd_one1 (by repeat (first | with_reducible refine heap_drew ?_ | with_reducible exact heap_alloc_at (by simp only [alloc_size, drew_size]) | with_reducible refine heap_alloc_old ?_))) (by simp [Value.oneCell']) (by simp; omega) (by simp only [alloc_size, drew_size]; omega) ?_; intro vO wO hoO hgO; obtain ⟨pO, cO, rfl⟩ := ownsRow_slice hoO; have hgO2 := grown_heap HGH.out (by repeat (first | with_reducible exact Below.refl _ _ | with_reducible refine Below.drew ?_ | with_reducible refine below_alloc ?_ _ | refine below_step (by with_reducible assumption) ?_ (Nat.le_refl _))) HOW.out (by decide) hgO; have hqO2 := grown_heap HQH.out (by repeat (first | with_reducible exact Below.refl _ _ | with_reducible refine Below.drew ?_ | with_reducible refine below_alloc ?_ _ | refine below_step (by with_reducible assumption) ?_ (Nat.le_refl _))) HOW.out (by decide) hgO; have hcO : wO.cell? ⟨g, a, none⟩ = some (.slice pl lb.length cl) := (by rw [Go.Joins.cell_of_block hgO2 a]; simp [hacs]); have hfO : wO.frozen? ⟨g, a, none⟩ = false := Go.Joins.unfrozen_of_block hgO2 a; have hq2O : wO.cell? ⟨q, 2, none⟩ = some (.slice (some ⟨g, 0, none⟩) n cap) := (by rw [Go.Joins.cell_of_block hqO2 2]; simp); clear hgO2 hqO2)
                  all_goals
                    go_wp2
                    go_roundw
                    case rel => exact ⟨b + 1, _, by omega, by go_num, by rw [HF2.out]; exact RsB.app HB6.out (by repeat (first | with_reducible exact Below.refl _ _ | with_reducible refine Below.drew ?_ | with_reducible refine below_alloc ?_ _ | refine below_step (by with_reducible assumption) ?_ (Nat.le_refl _))) hoO hgO⟩
                    case measure => simp [intOf]; omega
          · have hbn : b = n := by omega
            have HPa : Hid (PT a = (List.range n).filter (cov R n a)) := by show _ = _; rw [HPT.out]
            rw [hbn, ← HPa.out] at hB
            have HA1 : Hid (RsA W4 g n PT (a + 1) wr) := RsA.next HDA.out HNC.out HRR.out HGR.out hlt hB.out
            clear hbn
            go_wp2
            go_roundw
            case rel => exact ⟨a + 1, by omega, by go_num, HA1⟩
            case measure => simp [intOf]; omega
      · have han : a = n := by omega
        rw [han] at hA
        have hqr := HQ.out _ hA.out.diff
        obtain ⟨⟨r0, r1, r2, r3⟩, _⟩ := four_cells hqr
        have hzr := heap_below (HBg.out _ hA.out.diff) Z2.out
        obtain ⟨⟨y0, y1, y2, y3⟩, g0, g1, g2, g3⟩ := four_cells hzr
        have HZR := Lib.hid hzr
        have HSF : Hid (slimF t = slimT t) := by
          show _ = _
          unfold slimF
          rw [if_pos (by rw [← HE.out]; exact HE0.out)]
        have HBr := Lib.hid (HBW.out _ (HBg.out _ hA.out.diff))
        have RE5 := Lib.hid (RdT.diffG RE4.out HG4.out (by decide) hA.out.diff)
        have RW5 := Lib.hid (RdT.diffG RW4.out HG4.out (by decide) hA.out.diff)
        clear hqr hzr han
        go_wp2
        change bodyPost _ _ _ _ _ (set4 wr (w.heap.size + 1) (.string (mkS t.name)) (.slice (some ⟨uE, 0, none⟩) n cE) (.slice (some ⟨g, 0, none⟩) n cap) (.slice (some ⟨uW, 0, none⟩) n cW))
        obtain ⟨WF, hWF⟩ : ∃ WF, WF = set4 wr (w.heap.size + 1) (.string (mkS t.name)) (.slice (some ⟨uE, 0, none⟩) n cE) (.slice (some ⟨g, 0, none⟩) n cap) (.slice (some ⟨uW, 0, none⟩) n cW) := ⟨_, rfl⟩
        rw [← hWF]
        have hzF := set4_heap (x0 := .string (mkS t.name)) (x1 := .slice (some ⟨uE, 0, none⟩) n cE) (x2 := .slice (some ⟨g, 0, none⟩) n cap) (x3 := .slice (some ⟨uW, 0, none⟩) n cW) HZR.out
        rw [← hWF] at hzF
        have HWF := Lib.hid hWF
        obtain ⟨⟨v0, v1, v2, v3⟩, _⟩ := four_cells hzF
        clear hWF hzF
        refine bodyPost_ret (v := .tuple #[.agg #[.string (mkS t.name), .slice (some ⟨uE, 0, none⟩) n cE, .slice (some ⟨g, 0, none⟩) n cap, .slice (some ⟨uW, 0, none⟩) n cW], .int .i64 0]) (by simp [results, Tryd.results38, go_sem, v0, v1, v2, v3]) rfl ⟨.slice (some ⟨uE, 0, none⟩) n cE, .slice (some ⟨g, 0, none⟩) n cap, .slice (some ⟨uW, 0, none⟩) n cW, ?_, ?_, ?_⟩
        · rw [HSF.out, HE0.out]; rfl
        · rw [HSF.out, HWF.out]
          have hl := slim_lens HF.out
          have hn2 := HN.out
          refine ⟨(RE5.out.set4 HZR.out (by decide)).rd, ?_, (RW5.out.set4 HZR.out (by decide)).rd⟩
          refine RsA.rd4 hA.out HZR.out (by rw [hl.1]; exact hn2) hncap (fun i hi => ?_) (fun i hi => ?_) (by omega)
          · rw [hl.2.1 i (by omega), HPT.out, HN.out, HR.out]
          · have := hl.2.2 i
            rw [HPT.out, HN.out, HR.out]
            show ((List.range t.n).filter (cov t.R t.n i)).length ≤ 20
            omega
        · rw [HWF.out]
          exact below_set4 HBr.out (Nat.le_succ _)
  · have hne : ((E : Int) != 0) = true := by rw [bne_iff_ne]; omega
    have HE0 := Lib.hid e0
    clear e0
    unfold tabV at CT ⊢
    go_enter Tryd.func38, Tryd.ntmps38
    go_wp2_with fail
    rw [← HW2.out]
    refine (CT.out _ HB2.out).mono ?_
    rintro e w1 ⟨rfl, hb⟩
    have HB1 := Lib.hid (HB2.out.trans (hb.mono HB2.out.size))
    have hzr := heap_below hb Z2.out
    obtain ⟨⟨y0, y1, y2, y3⟩, g0, g1, g2, g3⟩ := four_cells hzr
    have HZR := Lib.hid hzr
    have HSF : Hid (slimF t = zeroT) := by
      show _ = _
      unfold slimF
      rw [if_neg (by rw [← HE.out]; exact HE0.out)]
    clear hb hzr
    go_wp2
    change bodyPost _ _ _ _ _ (set4 w1 (w.heap.size + 1) (.string ⟨#[]⟩) (.slice none 0 0) (.slice none 0 0) (.slice none 0 0))
    obtain ⟨WF, hWF⟩ : ∃ WF, WF = set4 w1 (w.heap.size + 1) (.string ⟨#[]⟩) (.slice none 0 0) (.slice none 0 0) (.slice none 0 0) := ⟨_, rfl⟩
    rw [← hWF]
    have hzF := set4_heap (x0 := (.string ⟨#[]⟩)) (x1 := (.slice none 0 0)) (x2 := (.slice none 0 0)) (x3 := (.slice none 0 0)) HZR.out
    rw [← hWF] at hzF
    have HWF := Lib.hid hWF
    obtain ⟨⟨v0, v1, v2, v3⟩, _⟩ := four_cells hzF
    clear hWF hzF
    refine bodyPost_ret (v := .tuple #[.agg #[.string ⟨#[]⟩, .slice none 0 0, .slice none 0 0, .slice none 0 0], .int .i64 (E : Nat)]) (by simp [results, Tryd.results38, go_sem, v0, v1, v2, v3]) rfl ⟨.slice none 0 0, .slice none 0 0, .slice none 0 0, ?_, ?_, ?_⟩
    · rw [HSF.out]; rfl
    · rw [HSF.out]; exact zeroT_in _
    · rw [HWF.out]
      exact below_set4 HB1.out (Nat.le_succ _)
end Go.Proofs.YtmooikdodbjgpaaDoor.Or
