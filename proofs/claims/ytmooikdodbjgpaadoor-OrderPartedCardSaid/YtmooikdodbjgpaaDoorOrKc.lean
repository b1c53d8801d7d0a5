/- OrderParted is true of every table. -/
import Derived.Test.YtmooikdodbjgpaaDoorOrKa
import Derived.Test.YtmooikdodbjgpaaDoorOrKb
import Derived.Test.YtmooikdodbjgpaaDoorOrAj
import Derived.Test.YtmooikdodbjgpaaDoorOrKj
import Derived.BigQuiet
import Derived.Deep.CutRange
import Derived.Deep.Cut
set_option linter.unusedVariables false
set_option linter.unusedSimpArgs false
namespace Go.Proofs.YtmooikdodbjgpaaDoor.Or
open Go.RowKit Go.Shelf

set_option maxRecDepth 100000 in
set_option maxHeartbeats 16000000 in
theorem parted_any (HJ : JoinOk) (t : Tab) (ve va vw : Value) (w : World) (hT : TabIn w ve va vw t) (hnm : t.name.length ≤ 281474976710656) (hLd : LaidOk w) :
    Calls Tryd.prog 10 #[tabV t ve va vw] w fun e w' => e = .returned (.bool true) ∧ Below w.heap.size w w' := by
  obtain ⟨i0, hi, hz0, hz1, hz2⟩ := info_parts infoII
  have H := lat_calls HJ t ve va vw w hT hnm hLd
  obtain ⟨W1, hW1⟩ : ∃ W1, W1 = (w.alloc (Obj.cells #[.string (mkS t.name), ve, va, vw] 26)) := ⟨_, rfl⟩
  have b1 : Below w.heap.size w W1 := by rw [hW1]; exact (Below.refl _ _).alloc (Nat.le_refl _) _
  have c0 : W1.cell? ⟨w.heap.size, 0, none⟩ = some (.string (mkS t.name)) := by rw [hW1]; simp [go_sem]
  have c1 : W1.cell? ⟨w.heap.size, 1, none⟩ = some ve := by rw [hW1]; simp [go_sem]
  have c2 : W1.cell? ⟨w.heap.size, 2, none⟩ = some va := by rw [hW1]; simp [go_sem]
  have c3 : W1.cell? ⟨w.heap.size, 3, none⟩ = some vw := by rw [hW1]; simp [go_sem]
  have CT := Lib.hid (H.right W1 b1)
  have CA := Lib.hid H.awake
  have HH := Lib.hid H
  have HW1 := Lib.hid hW1; have HB1 := Lib.hid b1
  have HTI := Lib.hid hT
  obtain ⟨n, hn⟩ : ∃ n, n = t.elems.length := ⟨_, rfl⟩
  obtain ⟨pe, ce, rfl⟩ := hT.e.form
  obtain ⟨pa, ca, rfl⟩ := hT.a.form
  obtain ⟨pw, cw, rfl⟩ := hT.w.form
  rw [← hn] at c1
  cases hr : (thinF t && decide (latE t [] = 0)) with
  | false =>
    rw [hr] at CT
    unfold tabV at CT ⊢
    clear hr HH H hT hnm hLd hW1 b1 hn c0 c1 c2 c3 HTI
    go_enter Tryd.func10, Tryd.ntmps10
    go_wp2_with fail
    rw [← HW1.out]
    refine CT.out.mono ?_
    rintro e w2 ⟨rfl, hb⟩
    have HB2 := Lib.hid (HB1.out.trans (hb.mono HB1.out.size))
    clear hb
    go_wp2_with fail
    refine (CA.out _ HB2.out).mono ?_
    rintro e w3 ⟨rfl, hb⟩
    have HB3 := Lib.hid (HB2.out.trans (hb.mono HB2.out.size))
    clear hb
    go_wp2
    go_ret
    exact ⟨rfl, HB3.out⟩
  | true =>
    rw [hr] at CT
    have hl : latE t [] = 0 := by simp only [Bool.and_eq_true, decide_eq_true_eq] at hr; exact hr.2
    obtain ⟨hf, hlat, _⟩ := latE_zero hl
    have hLat := latF_lat hlat
    have hAcy := frm_acy hf hLat
    obtain ⟨f1, f2, f3, f4⟩ := frm_len hf
    have hnT : t.n = n := by unfold Tab.n; exact hn.symm
    have n12 : n ≤ 12 := by omega
    have n1 : 1 ≤ n := by omega
    rw [hnT] at hLat hAcy
    obtain ⟨F, hF⟩ : ∃ F, F = bel t.R := ⟨_, rfl⟩
    obtain ⟨PT, hPT⟩ : ∃ f, f = ptL t.R n := ⟨_, rfl⟩
    obtain ⟨PR, hPR⟩ : ∃ l, l = (List.range n).filter (primeO t.R n) := ⟨_, rfl⟩
    obtain ⟨J, hJ⟩ : ∃ f : Nat → Nat → Nat, f = fun a k => jnL t.R n ((PT a).take k) := ⟨_, rfl⟩
    have L1 : Hid (∀ a, (PT a).length ≤ 12) := fun a => by
      rw [hPT]; unfold ptL
      have := List.length_filter_le (ptF t.R n a) (List.range n)
      simp at this; omega
    have L2 : Hid (PR.length ≤ 12) := by
      show _ ≤ _
      rw [hPR]
      have := List.length_filter_le (primeO t.R n) (List.range n)
      simp at this; omega
    have hptlt : ∀ a x, x ∈ PT a → 0 < x ∧ x < n := fun a x hx => by
      rw [hPT] at hx
      have := mem_ptL.1 hx
      exact prime_lt (ptF_yes.1 this.2).1
    have G1 : Hid (∀ a k, k < (PT a).length → 0 < (PT a).getD k 0 ∧ (PT a).getD k 0 < n) := fun a k hk => hptlt a _ (by
      rw [List.getD_eq_getElem?_getD, List.getElem?_eq_getElem hk, Option.getD_some]; exact List.getElem_mem hk)
    have G2 : Hid (∀ a, J a 0 = 0) := fun a => by rw [hJ]; rfl
    have G3 : Hid (∀ a k, J a k < n) := fun a k => by
      rw [hJ]; exact (jnL_spec hLat hAcy n1 _ (fun x hx => (hptlt a x (List.mem_of_mem_take hx)).2)).1
    have G4 : Hid (∀ a k, k < (PT a).length → jn t.R n (J a k) ((PT a).getD k 0) = J a (k + 1)) := fun a k hk => by
      rw [hJ]
      simp only
      rw [List.take_add_one, List.getElem?_eq_getElem hk]
      simp only [Option.toList_some]
      rw [jnL_snoc, List.getD_eq_getElem?_getD, List.getElem?_eq_getElem hk, Option.getD_some]
    have G5 : Hid (∀ a, a < n → J a (PT a).length = a) := fun a ha => by
      rw [hJ]; simp only; rw [List.take_length, hPT]; exact parts_join hLat hAcy ha
    have G6 : Hid (∀ k, k < PR.length → PR.getD k 0 < n ∧ PT (PR.getD k 0) = [PR.getD k 0]) := fun k hk => by
      have hm : PR.getD k 0 ∈ PR := by rw [List.getD_eq_getElem?_getD, List.getElem?_eq_getElem hk, Option.getD_some]; exact List.getElem_mem hk
      rw [hPR, List.mem_filter, List.mem_range, ← hPR] at hm
      exact ⟨hm.1, by rw [hPT]; exact prime_part hAcy hm.2⟩
    obtain ⟨S, hS⟩ : ∃ f : Nat → Nat → Nat → Bool, f = fun p b k => ((PT b).take k).any fun q => F p q := ⟨_, rfl⟩
    have G7 : Hid (∀ p b, S p b 0 = false) := fun p b => by rw [hS]; rfl
    have G8 : Hid (∀ p b k, k < (PT b).length → S p b (k + 1) = (S p b k || F p ((PT b).getD k 0))) := fun p b k hk => by
      rw [hS]
      simp only
      rw [List.take_add_one, List.getElem?_eq_getElem hk]
      simp only [Option.toList_some]
      rw [List.any_append, List.getD_eq_getElem?_getD, List.getElem?_eq_getElem hk, Option.getD_some]
      simp
    have G9 : Hid (∀ a b k, F a b = true → k < (PT a).length → S ((PT a).getD k 0) b (PT b).length = true) := fun a b k hab hk => by
      rw [hS]; simp only; rw [List.take_length, hF, hPT]
      rw [hF] at hab
      refine parts_below hAcy hab ?_
      rw [← hPT, List.getD_eq_getElem?_getD, List.getElem?_eq_getElem hk, Option.getD_some]; exact List.getElem_mem hk
    have CJ : Hid (∀ U (a c : Nat), Below w.heap.size w U → a < n → c < n → Calls Tryd.prog 52 #[tabV t (.slice pe t.elems.length ce) (.slice pa t.above.length ca) (.slice pw t.wrong.length cw), .int .i64 a, .int .i64 c] U fun e w' => e = .returned (.int .i64 (jn t.R n a c : Nat)) ∧ Below U.heap.size U w') := fun U a c h ha hc => by
      have := H.join hl U a c h (by omega) (by omega); rw [hnT] at this; exact this
    have CB : Hid (∀ U (a c : Nat), Below w.heap.size w U → a < n → c < n → Calls Tryd.prog 53 #[tabV t (.slice pe t.elems.length ce) (.slice pa t.above.length ca) (.slice pw t.wrong.length cw), .int .i64 a, .int .i64 c] U fun e w' => e = .returned (.bool (F a c)) ∧ Below U.heap.size U w') := fun U a c h ha hc => by
      rw [hF]; exact H.below hl U a c h (by omega) (by omega)
    have CI : Hid (∀ U (a : Nat), Below w.heap.size w U → a < n → Calls Tryd.prog 54 #[tabV t (.slice pe t.elems.length ce) (.slice pa t.above.length ca) (.slice pw t.wrong.length cw), .int .i64 a] U fun e w' => e = .returned (.bool true) ∧ Below U.heap.size U w') := fun U a h ha =>
      isElem_any t _ _ _ a U (H.tab U h) (by omega) (by omega)
    have CC : Hid (∀ U, Below w.heap.size w U → Calls Tryd.prog 17 #[tabV t (.slice pe t.elems.length ce) (.slice pa t.above.length ca) (.slice pw t.wrong.length cw)] U fun e w' => ∃ ve' va' vw', e = .returned (.agg #[.string (mkS t.name), ve', va', vw']) ∧ TabIn w' ve' va' vw' t ∧ Below U.heap.size U w') := fun U h =>
      copy_any t _ _ _ U (H.tab U h) (by omega) (by omega) (by omega) (frm_rows hf)
    have CP : Hid (∀ U ve va vw (a : Nat), Below w.heap.size w U → TabIn U ve va vw t → a < n → Calls Tryd.prog 30 #[.agg #[.string (mkS t.name), ve, va, vw], .int .i64 a] U fun e w' => ∃ v, e = .returned (.tuple #[v, .int .i64 0]) ∧ w'.ownsRow U.heap.size 3 1 v (PT a).length ((ints (PT a)).map (Value.int .i64)) ∧ Below U.heap.size U w') := fun U ve va vw a h hT ha => by
      have := Parts_own t ve va vw a U hT hl (H.laid U h) (by omega)
      rw [partsL_eq, hnT, ← hPT] at this
      exact this
    have CR : Hid (∀ U ve va vw, Below w.heap.size w U → TabIn U ve va vw t → Calls Tryd.prog 29 #[.agg #[.string (mkS t.name), ve, va, vw]] U fun e w' => ∃ v, e = .returned (.tuple #[v, .int .i64 0]) ∧ RdI w' v (ints PR) ∧ Below U.heap.size U w') := fun U ve va vw h hT => by
      have := Primes_any t ve va vw U hT (frm_small hf) (H.laid U h)
      rw [if_pos hl, hl, hnT, ← hPR] at this
      exact this
    have KS : Hid (∀ U, Below W1.heap.size W1 U → U.cell? ⟨w.heap.size, 0, none⟩ = some (.string (mkS t.name)) ∧ U.cell? ⟨w.heap.size, 1, none⟩ = some (.slice pe n ce) ∧ U.cell? ⟨w.heap.size, 2, none⟩ = some (.slice pa n ca) ∧ U.cell? ⟨w.heap.size, 3, none⟩ = some (.slice pw n cw)) := fun U h => by
      rw [f3, ← hn] at c2; rw [f4, ← hn] at c3
      exact ⟨(h.cell (cell_lt c0)).trans c0, (h.cell (cell_lt c1)).trans c1, (h.cell (cell_lt c2)).trans c2, (h.cell (cell_lt c3)).trans c3⟩
    have HBW : Hid (∀ U, Below W1.heap.size W1 U → Below w.heap.size w U) := fun U h => b1.trans (h.mono b1.size)
    unfold tabV at CT CJ CB CI CC ⊢
    rw [f3, f4, ← hn] at CT CJ CB CI CC ⊢
    rw [f3, f4, ← hn] at HW1
    obtain ⟨JN, hJN⟩ : ∃ f, f = jn t.R n := ⟨_, rfl⟩
    rw [← hJN] at CJ G4
    clear hr HH H hT hnm hLd hW1 b1 hn c0 c1 c2 c3 hl hf hlat hLat hAcy f1 f2 f3 f4 hnT hJ hF hPT hPR hS hptlt HTI hJN
    go_enter Tryd.func10, Tryd.ntmps10
    go_wp2_with fail
    rw [← HW1.out]
    refine CT.out.mono ?_
    rintro e w2 ⟨rfl, hb⟩
    have HB2 : Hid (Below W1.heap.size W1 w2) := hb
    obtain ⟨k0, k1, k2, k3⟩ := KS.out _ HB2.out
    clear hb CT
    go_wp2_with fail
    go_loopw [4, 5] (fun v i wx => ∃ a : Nat, a ≤ n ∧ i = .int .i64 a ∧ Hid (AllI W1.heap.size PT v a wx) ∧ Hid (Below W1.heap.size W1 wx)) (fun _ i _ => n - (intOf i).toNat)
    case atStart => exact ⟨0, Nat.zero_le _, rfl, ⟨[], World.ownsRow_nil _ _ _ _, fun i h => absurd h (by simp)⟩, HB2.out⟩
    case round =>
      clear k0 k1 k2 k3
      obtain ⟨a, han, rfl, hall, hb⟩ := hrel
      obtain ⟨pv, cv, rfl⟩ := hall.out.form
      by_cases hlt : a < n
      · obtain ⟨k0, k1, k2, k3⟩ := KS.out _ hb.out
        go_wp2_with fail
        refine (CC.out _ (HBW.out _ hb.out)).mono ?_
        rintro e w3 ⟨ve', va', vw', rfl, hT3, hb3⟩
        have HT3 := Lib.hid hT3
        have HB3 := Lib.hid (hb.out.trans (hb3.mono hb.out.size))
        have HA3 := Lib.hid (hall.out.below hb3)
        clear k0 k1 k2 k3 hb3 hT3
        go_wp2_with fail
        refine (CP.out _ _ _ _ a (HBW.out _ HB3.out) HT3.out hlt).mono ?_
        rintro e w4 ⟨vl, rfl, hrow, hb3⟩
        have HB4 := Lib.hid (HB3.out.trans (hb3.mono HB3.out.size))
        have HA4 := Lib.hid (HA3.out.below hb3)
        have HR4 := Lib.hid (ownsRow_base hrow (Nat.zero_le _))
        obtain ⟨q, cq, rfl⟩ := ownsRow_slice hrow
        obtain ⟨L, hL⟩ : ∃ L, L = (PT a).length := ⟨_, rfl⟩
        have HRD : Hid (RdI w4 (.slice q L cq) (ints (PT a))) := by
          have hle := L1.out a
          show RdI _ _ _
          rw [hL]
          exact rd_own (by rw [List.length_map, ints_length]; exact hrow) (by rw [List.length_map, ints_length]; omega)
        rw [← hL]
        have HL := Lib.hid hL
        clear hb3 hrow hL HB3 HA3 HT3
        go_wp2_with fail
        go_loopw [8, 9] (fun j i wx => ∃ k : Nat, k ≤ L ∧ i = .int .i64 k ∧ j = .int .i64 (J a k : Nat) ∧ Hid (Below w4.heap.size w4 wx)) (fun _ i _ => L - (intOf i).toNat)
        case atStart => exact ⟨0, Nat.zero_le _, rfl, by rw [G2.out a]; rfl, Below.refl _ _⟩
        case round =>
          clear hb
          obtain ⟨k, hkL, rfl, rfl, hb⟩ := hrel
          by_cases hlt2 : k < L
          · have hkp : k < (PT a).length := by have := HL.out; omega
            obtain ⟨x, hx⟩ : ∃ x, x = (PT a).getD k 0 := ⟨_, rfl⟩
            obtain ⟨gx0, gx1⟩ := G1.out a k hkp
            have hj4 := G4.out a k hkp
            have HLT2 := Lib.hid hlt2
            have hL12 : L ≤ 12 := by have := HL.out; have := L1.out a; omega
            rw [← hx] at gx0 gx1 hj4
            obtain ⟨b, off, rfl, hc⟩ := RdI.cell (HRD.out.below hb.out) (i := k) (by rw [ints_length]; exact hkp)
            have hcx : wr.cell? ⟨b, off + k, none⟩ = some (.int .i64 (x : Int)) := by rw [hc, hx]; simp [ints, List.getD_eq_getElem?_getD, hkp]
            obtain ⟨y, hy⟩ : ∃ y, y = J a k := ⟨_, rfl⟩
            have hyn : y < n := by rw [hy]; exact G3.out a k
            obtain ⟨z, hz⟩ : ∃ z, z = J a (k + 1) := ⟨_, rfl⟩
            have hzn : z < n := by rw [hz]; exact G3.out a (k + 1)
            rw [← hy, ← hz] at hj4
            rw [← hy]
            have HZ := Lib.hid hz
            have HJ4 := Lib.hid hj4
            have gx : ((x : Int) == 0) = false := by rw [beq_eq_false_iff_ne]; omega
            have gz : decide ((z : Int) < 0) = false := decide_eq_false (by omega)
            have HBr := Lib.hid (HB4.out.trans (hb.out.mono HB4.out.size))
            have KV : Hid (∀ V, Below wr.heap.size wr V → (V.cell? ⟨w.heap.size, 0, none⟩ = some (.string (mkS t.name)) ∧ V.cell? ⟨w.heap.size, 1, none⟩ = some (.slice pe n ce) ∧ V.cell? ⟨w.heap.size, 2, none⟩ = some (.slice pa n ca) ∧ V.cell? ⟨w.heap.size, 3, none⟩ = some (.slice pw n cw)) ∧ V.cell? ⟨b, off + k, none⟩ = some (.int .i64 (x : Int))) := fun V h => ⟨KS.out _ (HBr.out.trans (h.mono HBr.out.size)), (h.cell (cell_lt hcx)).trans hcx⟩
            have D1 : Hid (∀ V, Below wr.heap.size wr V → Calls Tryd.prog 54 #[.agg #[.string (mkS t.name), .slice pe n ce, .slice pa n ca, .slice pw n cw], .int .i64 x] V fun e w'' => e = .returned (.bool true) ∧ Below wr.heap.size wr w'') := fun V hV => by
              refine (CI.out V x (HBW.out _ (HBr.out.trans (hV.mono HBr.out.size))) gx1).mono ?_
              rintro e w' ⟨rfl, hb⟩
              exact ⟨rfl, hV.trans (hb.mono hV.size)⟩
            clear hc hcx hx hy hz hj4 gx0 hkp
            go_upto_region 15 with fail
            refine wp_region_below wr.heap.size wr (by kernel_rfl) (by kernel_rfl) (Below.refl _ _) ?_
            repeat (
              refine wpQuiet_step (fun K hK => ?_)
              first
                | (refine quiet_yes (by rfl) ?_ (fun V hV => ?_) (hK _ ?_)
                   rotate_left
                   · obtain ⟨⟨k0, k1, k2, k3⟩, hcc⟩ := KV.out V hV
                     skip
                     unfold Oper.quietAt
                     go_simp
                     first
                       | exact rfl
                       | exact ⟨rfl, rfl⟩
                       | with_reducible exact D1.out V hV
                   clear hK K
                   simp only [Act.put, List.setIfInBounds_toArray, List.set_cons_zero, List.set_cons_succ])
                | (refine quiet_no (by rfl) (hK _ ?_)
                   clear hK K
                   simp only [Act.put, List.setIfInBounds_toArray, List.set_cons_zero, List.set_cons_succ]))
            refine wpQuiet_nil ?_
            intro w6 hb6
            have HB6 := Lib.hid (HBr.out.trans (hb6.mono HBr.out.size))
            have HBX := Lib.hid (hb.out.trans (hb6.mono hb.out.size))
            have KV2 := Lib.hid (fun V (h : Below w6.heap.size w6 V) => KV.out V (hb6.trans (h.mono hb6.size)))
            clear hb6 KV D1
            have KV := KV2
            clear KV2
            have D1 : Hid (∀ V, Below w6.heap.size w6 V → Calls Tryd.prog 52 #[.agg #[.string (mkS t.name), .slice pe n ce, .slice pa n ca, .slice pw n cw], .int .i64 y, .int .i64 x] V fun e w'' => e = .returned (.int .i64 (z : Int)) ∧ Below w6.heap.size w6 w'') := fun V hV => by
              refine (CJ.out V y x (HBW.out _ (HB6.out.trans (hV.mono HB6.out.size))) hyn gx1).mono ?_
              rintro e w' ⟨rfl, hb⟩
              exact ⟨by rw [HJ4.out], hV.trans (hb.mono hV.size)⟩
            go_upto_region 17 with fail
            refine wp_region_below w6.heap.size w6 (by kernel_rfl) (by kernel_rfl) (Below.refl _ _) ?_
            repeat (
              refine wpQuiet_step (fun K hK => ?_)
              first
                | (refine quiet_yes (by rfl) ?_ (fun V hV => ?_) (hK _ ?_)
                   rotate_left
                   · obtain ⟨⟨k0, k1, k2, k3⟩, hcc⟩ := KV.out V hV
                     skip
                     unfold Oper.quietAt
                     go_simp
                     first
                       | exact rfl
                       | exact ⟨rfl, rfl⟩
                       | with_reducible exact D1.out V hV
                   clear hK K
                   simp only [Act.put, List.setIfInBounds_toArray, List.set_cons_zero, List.set_cons_succ])
                | (refine quiet_no (by rfl) (hK _ ?_)
                   clear hK K
                   simp only [Act.put, List.setIfInBounds_toArray, List.set_cons_zero, List.set_cons_succ]))
            refine wpQuiet_nil ?_
            intro w7 hb7
            have HB7 := Lib.hid (HBX.out.trans (hb7.mono HBX.out.size))
            clear hb7 KV D1
            go_wp2
            go_roundw
            case rel => exact ⟨k + 1, HLT2.out, by go_num, by rw [HZ.out], HB7.out⟩
            case measure => have := HLT2.out; simp [intOf]; omega
          · have hkL2 : k = L := by omega
            subst hkL2
            have hj5 : J a k = a := by rw [HL.out]; exact G5.out a hlt
            rw [hj5]
            have g5 : ((a : Int) != (a : Int)) = false := by simp
            obtain ⟨xs, hro, hrs⟩ := (HA4.out.below hb.out).row
            have HBr := Lib.hid (HB4.out.trans (hb.out.mono HB4.out.size))
            have HRS := Lib.hid hrs
            have HRL := Lib.hid (ownsRow_below HR4.out hb.out)
            have HLT := Lib.hid hro.lt
            clear hrs hj5
            go_wp2_with (at_builtin; refine wpList_append_own _ rfl _ _ 23 rfl W1.heap.size 39 i0 (.slice none 0 0) 1 24 Tryd.underlying23 hi hz0 hz1 hz2 rfl (by decide) _ _ _ rfl (hro.alloc _) ⟨wr.heap.size, 0, none⟩ 1 1 [.slice q k cq] rfl rfl ?c1 ?c2 (by unfold maxLen; omega) (by omega) (by simp; have := HBr.out.size; omega) ?_)
            case c1 => intro j u hj; match j, hj with | 0, hj => (simp at hj; subst hj; simp [Addr.add])
            case c2 => intro u hu; simp at hu; subst hu; rfl
            intro v' w' hown' hgrow _
            have HB5 := Lib.hid (Below.grown (HBr.out.alloc HBr.out.size _) hgrow (by have := HBr.out.size; simp; omega) (fun j hj => (HLT.out j hj).1))
            have HA5 : Hid (AllI W1.heap.size PT v' (a + 1) w') := by
              have hal : Below wr.heap.size wr (wr.alloc (.cells #[Value.slice q k cq] 39)) := (Below.refl _ _).alloc (Nat.le_refl _) _
              refine AllI.snoc (hro.alloc _) (fun i h => ownsRow_below (HRS.out i h) hal) (l := .slice q k cq) ?_ hown' hgrow
              have h9 := ownsRow_below HRL.out hal
              rw [← show Value.slice q k cq = Value.slice q (PT a).length cq from congrArg (fun z => Value.slice q z cq) HL.out] at h9
              exact h9
            clear hown' hgrow hro
            go_wp2
            go_roundw
            case rel => exact ⟨a + 1, by omega, by go_num, HA5, HB5⟩
            case measure => simp [intOf]; omega
      · have han2 : a = n := by omega
        subst han2
        obtain ⟨k0, k1, k2, k3⟩ := KS.out _ hb.out
        go_wp2_with fail
        refine (CC.out _ (HBW.out _ hb.out)).mono ?_
        rintro e w3 ⟨ve', va', vw', rfl, hT3, hb3⟩
        have HT3 := Lib.hid hT3
        have HB3 := Lib.hid (hb.out.trans (hb3.mono hb.out.size))
        have HA3 := Lib.hid (hall.out.below hb3)
        clear k0 k1 k2 k3 hb3 hT3
        go_wp2_with fail
        refine (CR.out _ _ _ _ (HBW.out _ HB3.out) HT3.out).mono ?_
        rintro e w4 ⟨vl, rfl, hrd, hb3⟩
        have HB4 := Lib.hid (HB3.out.trans (hb3.mono HB3.out.size))
        have HA4 := Lib.hid (HA3.out.below hb3)
        obtain ⟨q, cq, rfl⟩ := hrd.form
        rw [ints_length] at hrd
        rw [ints_length]
        have HRD := Lib.hid hrd
        obtain ⟨L, hL⟩ : ∃ L, L = PR.length := ⟨_, rfl⟩
        rw [← hL] at HRD
        rw [← hL]
        have HL := Lib.hid hL
        have l12 : L ≤ 12 := by rw [hL]; exact L2.out
        have a12 : a ≤ 12 := n12
        clear hb3 hrd hL HB3 HA3 HT3 hb hall
        go_wp2_with fail
        go_loopw [12] (fun i wx => ∃ k : Nat, k ≤ L ∧ i = .int .i64 k ∧ Hid (Below w4.heap.size w4 wx)) (fun i _ => L - (intOf i).toNat)
        case atStart => exact ⟨0, Nat.zero_le _, rfl, Below.refl _ _⟩
        case round =>
          obtain ⟨k, hkL, rfl, hb⟩ := hrel
          by_cases hlt2 : k < L
          · have hkp : k < PR.length := by have := HL.out; omega
            obtain ⟨x, hx⟩ : ∃ x, x = PR.getD k 0 := ⟨_, rfl⟩
            obtain ⟨gx1, gx2⟩ := G6.out k hkp
            rw [← hx] at gx1 gx2
            have hrdr := HRD.out.below hb.out
            obtain ⟨b, off, rfl, hc⟩ := RdI.cell hrdr (i := k) (by rw [ints_length]; exact hkp)
            have hgx : (ints PR).getD k 0 = (x : Int) := by rw [hx]; simp [ints, List.getD_eq_getElem?_getD, hkp]
            rw [hgx] at hc
            have hsub := rd_sub hrdr (k := k) (by rw [ints_length]; exact hkp)
            rw [hgx] at hsub
            obtain ⟨g, o, q1, c1, rfl, hq, hqr⟩ := (HA4.out.below hb.out).get gx1 (by omega) (by have := L1.out x; omega)
            rw [gx2] at hq hqr
            have hcap := (Rd.capE hrdr).2
            have HBr := Lib.hid (HB4.out.trans (hb.out.mono HB4.out.size))
            have KV : Hid (∀ V, Below wr.heap.size wr V → (V.cell? ⟨w.heap.size, 0, none⟩ = some (.string (mkS t.name)) ∧ V.cell? ⟨w.heap.size, 1, none⟩ = some (.slice pe a ce) ∧ V.cell? ⟨w.heap.size, 2, none⟩ = some (.slice pa a ca) ∧ V.cell? ⟨w.heap.size, 3, none⟩ = some (.slice pw a cw)) ∧ V.cell? ⟨b, off + k, none⟩ = some (.int .i64 (x : Int)) ∧ V.cell? ⟨g, o + x, none⟩ = some (.slice q1 1 c1)) := fun V h => ⟨KS.out _ (HBr.out.trans (h.mono HBr.out.size)), (h.cell (cell_lt hc)).trans hc, (h.cell (cell_lt hq)).trans hq⟩
            have D1 : Hid (∀ V, Below wr.heap.size wr V → Calls Tryd.prog 54 #[.agg #[.string (mkS t.name), .slice pe a ce, .slice pa a ca, .slice pw a cw], .int .i64 x] V fun e w'' => e = .returned (.bool true) ∧ Below wr.heap.size wr w'') := fun V hV => by
              refine (CI.out V x (HBW.out _ (HBr.out.trans (hV.mono HBr.out.size))) gx1).mono ?_
              rintro e w' ⟨rfl, hb⟩
              exact ⟨rfl, hV.trans (hb.mono hV.size)⟩
            have D2 : Hid (∀ V, Below wr.heap.size wr V → Calls Tryd.prog 27 #[.slice q1 1 c1, .slice (some ⟨b, off + k, none⟩) 1 (cq - k)] V fun e w'' => e = .returned (.bool true) ∧ Below wr.heap.size wr w'') := fun V hV => by
              refine (sameInts_any _ _ [(x : Int)] [(x : Int)] V (hqr.below hV) (hsub.below hV)).mono ?_
              rintro e w' ⟨rfl, hb⟩
              exact ⟨by simp, hV.trans (hb.mono hV.size)⟩
            have s1 : (1 : Nat) ≤ cq - k := by omega
            have hw1 : IntKind.i64.wrap ((k : Int) + 1) = (k : Int) + 1 := IntWalk.i64_in _ (by omega)
            have hw2 : (0 : Int) ≤ (k : Int) + 1 := by omega
            have hw3 : (k : Int) + 1 ≤ (cq : Int) := by omega
            have hw4 : ((k : Int) + 1).toNat = k + 1 := by omega
            have hw5 : ¬ cq = k := by omega
            have hw6 : k + 1 - k = 1 := by omega
            have hlq := L2.out
            clear hc hq hx hgx hsub hqr hrdr gx2 hkp
            go_upto_region 29 with fail
            refine wp_region_below wr.heap.size wr (by kernel_rfl) (by kernel_rfl) (Below.refl _ _) ?_
            repeat (
              refine wpQuiet_step (fun K hK => ?_)
              first
                | (refine quiet_yes (by rfl) ?_ (fun V hV => ?_) (hK _ ?_)
                   rotate_left
                   · obtain ⟨⟨k0, k1, k2, k3⟩, hcc⟩ := KV.out V hV
                     obtain ⟨hc1, hc2⟩ := hcc
                     unfold Oper.quietAt
                     go_simp
                     first
                       | exact rfl
                       | exact ⟨rfl, rfl⟩
                       | with_reducible exact D1.out V hV
                       | with_reducible exact D2.out V hV
                   clear hK K
                   simp only [Act.put, List.setIfInBounds_toArray, List.set_cons_zero, List.set_cons_succ])
                | (refine quiet_no (by rfl) (hK _ ?_)
                   clear hK K
                   simp only [Act.put, List.setIfInBounds_toArray, List.set_cons_zero, List.set_cons_succ]))
            refine wpQuiet_nil ?_
            intro w6 hb6
            have HB6 := Lib.hid (hb.out.trans (hb6.mono hb.out.size))
            clear hb6 KV D1 D2
            go_wp2
            go_roundw
            case rel => exact ⟨k + 1, by omega, by go_num, HB6.out⟩
            case measure => simp [intOf]; omega
          · go_wp2_with fail
            go_loopw [13] (fun i wx => ∃ c : Nat, c ≤ a ∧ i = .int .i64 c ∧ Hid (Below w4.heap.size w4 wx)) (fun i _ => a - (intOf i).toNat)
            case atStart => exact ⟨0, Nat.zero_le _, rfl, hb⟩
            case round =>
              clear hb
              obtain ⟨c, hca, rfl, hb⟩ := hrel
              by_cases hlt3 : c < a
              · go_wp2_with fail
                go_loopw [14] (fun i wx => ∃ d : Nat, d ≤ a ∧ i = .int .i64 d ∧ Hid (Below w4.heap.size w4 wx)) (fun i _ => a - (intOf i).toNat)
                case atStart => exact ⟨0, Nat.zero_le _, rfl, hb⟩
                case round =>
                  clear hb
                  obtain ⟨d, hda, rfl, hb⟩ := hrel
                  by_cases hlt4 : d < a
                  · obtain ⟨M, hM⟩ : ∃ M, M = (PT c).length := ⟨_, rfl⟩
                    have m12 : M ≤ 12 := by rw [hM]; exact L1.out c
                    obtain ⟨M2, hM2⟩ : ∃ M, M = (PT d).length := ⟨_, rfl⟩
                    have m212 : M2 ≤ 12 := by rw [hM2]; exact L1.out d
                    have HM := Lib.hid hM
                    have HM2 := Lib.hid hM2
                    clear hM hM2
                    go_wp2_with fail
                    go_loopw [15] (fun i wx => ∃ e : Nat, e ≤ M ∧ i = .int .i64 e ∧ Hid (Below w4.heap.size w4 wx)) (fun i _ => M - (intOf i).toNat)
                    case atStart => exact ⟨0, Nat.zero_le _, rfl, hb⟩
                    case round =>
                      clear hb
                      obtain ⟨e, heM, rfl, hb⟩ := hrel
                      have HBr := Lib.hid (HB4.out.trans (hb.out.mono HB4.out.size))
                      obtain ⟨g, o, q1, c1, rfl, hq1, hq1r⟩ := (HA4.out.below hb.out).get hlt3 (by omega) (by have := L1.out c; omega)
                      obtain ⟨g', o', q2, c2, hgo, hq2, hq2r⟩ := (HA4.out.below hb.out).get hlt4 (by omega) (by have := L1.out d; omega)
                      simp only [Option.some.injEq, Addr.mk.injEq, and_true] at hgo
                      obtain ⟨rfl, rfl⟩ := hgo
                      rw [← HM.out] at hq1 hq1r
                      rw [← HM2.out] at hq2 hq2r
                      have HQ1 := Lib.hid hq1; have HQ2 := Lib.hid hq2
                      have HR1 := Lib.hid hq1r; have HR2 := Lib.hid hq2r
                      clear hq2 hq1r hq2r
                      obtain ⟨k0, k1, k2, k3⟩ := KS.out _ HBr.out
                      by_cases hlt5 : e < M
                      · go_wp2_with fail
                        refine (CB.out _ c d (HBW.out _ HBr.out) hlt3 hlt4).mono ?_
                        rintro ee w5 ⟨rfl, hb5⟩
                        have HB5 := Lib.hid (hb.out.trans (hb5.mono hb.out.size))
                        have HD5 := Lib.hid hb5
                        clear k0 k1 k2 k3 hb5 hq1
                        cases hfab : F c d with
                        | false =>
                          clear hfab
                          go_wp2
                          go_roundw
                          case rel => exact ⟨d + 1, by omega, by go_num, HB5.out⟩
                          case measure => simp [intOf]; omega
                        | true =>
                          have hep : e < (PT c).length := by have := HM.out; omega
                          obtain ⟨x, hx⟩ : ∃ x, x = (PT c).getD e 0 := ⟨_, rfl⟩
                          obtain ⟨_, gx1⟩ := G1.out c e hep
                          have h9 := G9.out c d e hfab hep
                          rw [← hx] at gx1 h9
                          have H9 := Lib.hid h9
                          obtain ⟨b, off, hq1e, hc⟩ := RdI.cell (HR1.out.below HD5.out) (i := e) (by rw [ints_length]; exact hep)
                          subst hq1e
                          have hcx : w5.cell? ⟨b, off + e, none⟩ = some (.int .i64 (x : Int)) := by rw [hc, hx]; simp [ints, List.getD_eq_getElem?_getD, hep]
                          have hq1 := (HD5.out.cell (cell_lt HQ1.out)).trans HQ1.out
                          have hq2 := (HD5.out.cell (cell_lt HQ2.out)).trans HQ2.out
                          have HR25 := Lib.hid (HR2.out.below HD5.out)
                          have HB45 := Lib.hid (HBr.out.trans (HD5.out.mono HBr.out.size))
                          have KV0 : Hid (∀ V, Below w5.heap.size w5 V → (V.cell? ⟨w.heap.size, 0, none⟩ = some (.string (mkS t.name)) ∧ V.cell? ⟨w.heap.size, 1, none⟩ = some (.slice pe a ce) ∧ V.cell? ⟨w.heap.size, 2, none⟩ = some (.slice pa a ca) ∧ V.cell? ⟨w.heap.size, 3, none⟩ = some (.slice pw a cw)) ∧ V.cell? ⟨b, off + e, none⟩ = some (.int .i64 (x : Int)) ∧ V.cell? ⟨g, o + c, none⟩ = some (.slice (some ⟨b, off, none⟩) M c1) ∧ V.cell? ⟨g, o + d, none⟩ = some (.slice q2 M2 c2)) := fun V h => ⟨KS.out _ (HB45.out.trans (h.mono HB45.out.size)), (h.cell (cell_lt hcx)).trans hcx, (h.cell (cell_lt hq1)).trans hq1, (h.cell (cell_lt hq2)).trans hq2⟩
                          clear hc hx hfab h9 hep HQ1 HQ2 HR1 HR2 hcx hq1 hq2
                          go_wp2_with fail
                          go_loopw [16, 17] (fun s i wx => ∃ k : Nat, k ≤ M2 ∧ i = .int .i64 k ∧ s = .bool (S x d k) ∧ Hid (Below w5.heap.size w5 wx)) (fun _ i _ => M2 - (intOf i).toNat)
                          case atStart => exact ⟨0, Nat.zero_le _, rfl, by rw [G7.out x d], Below.refl _ _⟩
                          case round =>
                            clear hb
                            obtain ⟨k, hkM, rfl, rfl, hb⟩ := hrel
                            obtain ⟨⟨k0, k1, k2, k3⟩, hcx, hq1, hq2⟩ := KV0.out _ hb.out
                            by_cases hlt6 : k < M2
                            · have hkp : k < (PT d).length := by have := HM2.out; omega
                              obtain ⟨y, hy⟩ : ∃ y, y = (PT d).getD k 0 := ⟨_, rfl⟩
                              obtain ⟨_, gy1⟩ := G1.out d k hkp
                              have h8 := G8.out x d k hkp
                              rw [← hy] at gy1 h8
                              have hr2 := HR25.out.below hb.out
                              obtain ⟨b2, off2, rfl, hc⟩ := RdI.cell hr2 (i := k) (by rw [ints_length]; exact hkp)
                              have hcy : wr.cell? ⟨b2, off2 + k, none⟩ = some (.int .i64 (y : Int)) := by rw [hc, hy]; simp [ints, List.getD_eq_getElem?_getD, hkp]
                              have H8 := Lib.hid h8
                              have KV : Hid (∀ V, Below wr.heap.size wr V → (V.cell? ⟨w.heap.size, 0, none⟩ = some (.string (mkS t.name)) ∧ V.cell? ⟨w.heap.size, 1, none⟩ = some (.slice pe a ce) ∧ V.cell? ⟨w.heap.size, 2, none⟩ = some (.slice pa a ca) ∧ V.cell? ⟨w.heap.size, 3, none⟩ = some (.slice pw a cw)) ∧ V.cell? ⟨b, off + e, none⟩ = some (.int .i64 (x : Int)) ∧ V.cell? ⟨g, o + c, none⟩ = some (.slice (some ⟨b, off, none⟩) M c1) ∧ V.cell? ⟨g, o + d, none⟩ = some (.slice (some ⟨b2, off2, none⟩) M2 c2) ∧ V.cell? ⟨b2, off2 + k, none⟩ = some (.int .i64 (y : Int))) := fun V h => by
                                obtain ⟨h1, h2, h3, h4⟩ := KV0.out _ (hb.out.trans (h.mono hb.out.size))
                                exact ⟨h1, h2, h3, h4, (h.cell (cell_lt hcy)).trans hcy⟩
                              have HBq := Lib.hid (HB45.out.trans (hb.out.mono HB45.out.size))
                              obtain ⟨r, hr⟩ : ∃ r, r = F x y := ⟨_, rfl⟩
                              have D1 : Hid (∀ V, Below wr.heap.size wr V → Calls Tryd.prog 53 #[.agg #[.string (mkS t.name), .slice pe a ce, .slice pa a ca, .slice pw a cw], .int .i64 x, .int .i64 y] V fun e w'' => e = .returned (.bool r) ∧ Below wr.heap.size wr w'') := fun V hV => by
                                refine (CB.out V x y (HBW.out _ (HBq.out.trans (hV.mono HBq.out.size))) gx1 gy1).mono ?_
                                rintro e w' ⟨rfl, hb⟩
                                exact ⟨by rw [hr], hV.trans (hb.mono hV.size)⟩
                              rw [← hr] at H8
                              obtain ⟨s, hs⟩ : ∃ s, s = S x d k := ⟨_, rfl⟩
                              rw [← hs] at H8 ⊢
                              clear hc hy h8 hkp hr2 hcy hr hs
                              go_upto_region 44 with fail
                              clear k0 k1 k2 k3 hcx hq1 hq2
                              cases s with
                              | false =>
                                refine wp_region_below wr.heap.size wr (by kernel_rfl) (by kernel_rfl) (Below.refl _ _) ?_
                                repeat (
                                  refine wpQuiet_step (fun K hK => ?_)
                                  first
                                    | (refine quiet_yes (by rfl) ?_ (fun V hV => ?_) (hK _ ?_)
                                       rotate_left
                                       · obtain ⟨⟨k0, k1, k2, k3⟩, hcc⟩ := KV.out V hV
                                         obtain ⟨hc1, hc2, hc3, hc4⟩ := hcc
                                         unfold Oper.quietAt
                                         go_simp
                                         first
                                           | exact rfl
                                           | exact ⟨rfl, rfl⟩
                                           | with_reducible exact D1.out V hV
                                       clear hK K
                                       simp only [Act.put, List.setIfInBounds_toArray, List.set_cons_zero, List.set_cons_succ])
                                    | (refine quiet_no (by rfl) (hK _ ?_)
                                       clear hK K
                                       simp only [Act.put, List.setIfInBounds_toArray, List.set_cons_zero, List.set_cons_succ]))
                                refine wpQuiet_nil ?_
                                intro w6 hb6
                                have HB6 := Lib.hid (hb.out.trans (hb6.mono hb.out.size))
                                clear hb6 KV D1
                                go_wp2
                                go_roundw
                                case rel => exact ⟨k + 1, by omega, by go_num, by rw [H8.out, Bool.false_or], HB6.out⟩
                                case measure => simp [intOf]; omega
                              | true =>
                                obtain ⟨⟨k0, k1, k2, k3⟩, hc1, hc2, hc3, hc4⟩ := KV.out _ (Below.refl _ _)
                                go_quiet (fail)
                                go_wp2
                                go_roundw
                                case rel => exact ⟨k + 1, by omega, by go_num, by rw [H8.out, Bool.true_or], hb.out.trans (below_drewAt _ _ _)⟩
                                case measure => simp [intOf]; omega
                            · have hk2 : k = M2 := by omega
                              subst hk2
                              have hs : S x d k = true := by rw [HM2.out]; exact H9.out
                              rw [hs]
                              have HBz := Lib.hid (HB5.out.trans (hb.out.mono HB5.out.size))
                              clear hs
                              go_wp2
                              go_roundw
                              case rel => exact ⟨e + 1, by omega, by go_num, HBz.out⟩
                              case measure => simp [intOf]; omega
                      · clear k0 k1 k2 k3
                        go_wp2
                        go_roundw
                        case rel => exact ⟨d + 1, by omega, by go_num, hb.out⟩
                        case measure => simp [intOf]; omega
                  · go_wp2
                    go_roundw
                    case rel => exact ⟨c + 1, by omega, by go_num, hb.out⟩
                    case measure => simp [intOf]; omega
              · have HBr := Lib.hid (HB4.out.trans (hb.out.mono HB4.out.size))
                go_wp2_with fail
                refine (CA.out _ (HBW.out _ HBr.out)).mono ?_
                rintro ee w6 ⟨rfl, hb6⟩
                have HB6 := Lib.hid ((HBW.out _ HBr.out).trans (hb6.mono (HBW.out _ HBr.out).size))
                clear hb6
                go_wp2
                go_ret
                exact ⟨rfl, HB6.out⟩
end Go.Proofs.YtmooikdodbjgpaaDoor.Or
