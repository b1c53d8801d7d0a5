/- order's CheckShape. -/
import Derived.Test.YtfhnigpjmljhbaaDoorOrPm
set_option linter.unusedVariables false
set_option linter.unusedSimpArgs false
namespace Go.Proofs.YtfhnigpjmljhbaaDoor.Or
open Go.RowKit Go.Shelf

/-- The error of a shape with tables. -/
def csE (ts : List Tab) (d : Nat) (s : Shp) : Nat :=
  if decide (8 < ts.length) || deepF 4 s then 5
  else if !(ts.all frmF) || !formF d s then 4
  else if !distF (ts.map (·.name)) then 6
  else if !(ts.all latF) then 12
  else if !onlyF (ts.map (·.name)) d s then 7 else 0

set_option maxRecDepth 100000 in
set_option maxHeartbeats 8000000 in
theorem checkShape_any (ts : List Tab) (d : Nat) (s : Shp) (v u : Value) (w : World) (hv : TabsIn w v ts) (hs : KidIn d w u s) (hS : ∀ t ∈ ts, Small t) (hL : LaidOk w) :
    Calls Tryd.prog 19 #[v, shpV s u] w fun e w' => e = .returned (.int .i64 (csE ts d s : Nat)) ∧ Below w.heap.size w w' := by
  obtain ⟨i0, hi, hz0, hz1, hz2⟩ := info_parts infoStr
  obtain ⟨W1, hW1⟩ : ∃ W1, W1 = w.alloc (.cells #[.int .u8 s.k, .string (mkS s.nm), u] 42) := ⟨_, rfl⟩
  have b1 : Below w.heap.size w W1 := by rw [hW1]; exact (Below.refl _ _).alloc (Nat.le_refl _) _
  have h1 : W1.heap[w.heap.size]? = some (.cells #[.int .u8 s.k, .string (mkS s.nm), u] 42 (0, 0)) := by rw [hW1]; exact heap_alloc_at rfl
  obtain ⟨pu, cu, rfl⟩ := hs.form
  obtain ⟨pv, cv, rfl, hl⟩ := hv.form
  have KS : Hid (∀ V, Below W1.heap.size W1 V → V.cell? ⟨w.heap.size, 0, none⟩ = some (.int .u8 s.k) ∧ V.cell? ⟨w.heap.size, 1, none⟩ = some (.string (mkS s.nm)) ∧ V.cell? ⟨w.heap.size, 2, none⟩ = some (.slice pu s.n cu)) := fun V h => by
    have h2 := heap_below h h1
    have y0 := Go.Joins.cell_of_block h2 0
    have y1 := Go.Joins.cell_of_block h2 1
    have y2 := Go.Joins.cell_of_block h2 2
    simp only [List.getElem?_toArray, List.getElem?_cons_zero, List.getElem?_cons_succ] at y0 y1 y2
    exact ⟨y0, y1, y2⟩
  have HBW : Hid (∀ V, Below W1.heap.size W1 V → Below w.heap.size w V) := fun V h => b1.trans (h.mono b1.size)
  have CD : Hid (∀ V, Below W1.heap.size W1 V → Calls Tryd.prog 47 #[shpV s (.slice pu s.n cu), .int .i64 4] V fun e w' => e = .returned (.bool (deepF 4 s)) ∧ Below V.heap.size V w') := fun V h => deeper_any 4 d s _ V (by omega) (hs.below (HBW.out V h))
  have CF : Hid (∀ V, Below W1.heap.size W1 V → Calls Tryd.prog 50 #[shpV s (.slice pu s.n cu)] V fun e w' => e = .returned (.bool (formF d s)) ∧ Below V.heap.size V w') := fun V h => formedShape_any d s _ V (hs.below (HBW.out V h)) (hL.below (HBW.out V h))
  have CO : Hid (∀ V x, Below W1.heap.size W1 V → RdS V x (ts.map (·.name)) → Calls Tryd.prog 55 #[shpV s (.slice pu s.n cu), x] V fun e w' => e = .returned (.bool (onlyF (ts.map (·.name)) d s)) ∧ Below V.heap.size V w') := fun V x h hx => namesOnly_any _ d s _ x V (hs.below (HBW.out V h)) hx
  have CE : Hid (∀ V, Below W1.heap.size W1 V → Calls Tryd.prog 48 #[.slice pv ts.length cv, .func (.func 49) #[] #[]] V fun e w' => e = .returned (.bool (ts.all frmF)) ∧ Below V.heap.size V w') := fun V h =>
    everyTab_any _ ts 49 frmF V (hv.below (HBW.out V h)) (enters_of Tryd.func49 (by kernel_rfl) rfl) (fun t ht U xe xa xw hb hT => formed_any t xe xa xw U hT (hS t ht) (hL.below ((HBW.out V h).trans (hb.mono (HBW.out V h).size))))
  have CLt : Hid (ts.all frmF = true → ∀ V, Below W1.heap.size W1 V → Calls Tryd.prog 48 #[.slice pv ts.length cv, .func (.func 52) #[] #[]] V fun e w' => e = .returned (.bool (ts.all latF)) ∧ Below V.heap.size V w') := fun hf V h =>
    everyTab_any _ ts 52 latF V (hv.below (HBW.out V h)) (enters_of Tryd.func52 (by kernel_rfl) rfl) (fun t ht U xe xa xw hb hT => isLat_clo t xe xa xw U hT (List.all_eq_true.1 hf t ht) (hL.below ((HBW.out V h).trans (hb.mono (HBW.out V h).size))))
  have HV : Hid (∀ V, Below W1.heap.size W1 V → TabsIn V (.slice pv ts.length cv) ts) := fun V h => hv.below (HBW.out V h)
  obtain ⟨n, hn⟩ : ∃ n, n = ts.length := ⟨_, rfl⟩
  obtain ⟨D, hD⟩ : ∃ D, D = deepF 4 s := ⟨_, rfl⟩
  obtain ⟨F, hF⟩ : ∃ F, F = formF d s := ⟨_, rfl⟩
  obtain ⟨O, hO⟩ : ∃ O, O = onlyF (ts.map (·.name)) d s := ⟨_, rfl⟩
  obtain ⟨A, hA⟩ : ∃ O, O = ts.all frmF := ⟨_, rfl⟩
  obtain ⟨L, hLt⟩ : ∃ O, O = ts.all latF := ⟨_, rfl⟩
  obtain ⟨NS, hNS⟩ : ∃ O, O = ts.map (·.name) := ⟨_, rfl⟩
  obtain ⟨T, hT⟩ : ∃ O, O = distF NS := ⟨_, rfl⟩
  have HE : Hid (csE ts d s = if decide (8 < n) || D then 5 else if !A || !F then 4 else if !T then 6 else if !L then 12 else if !O then 7 else 0) := by
    show _ = _; rw [hn, hD, hF, hO, hA, hLt, hT, hNS]; rfl
  rw [← hNS] at CO hO
  rw [← hn] at CE CLt HV hl ⊢
  rw [← hD] at CD
  rw [← hF] at CF
  rw [← hO] at CO
  rw [← hA] at CE CLt
  rw [← hLt] at CLt
  have HNS := Lib.hid hNS; have HT := Lib.hid hT; have HN := Lib.hid hn
  have HNL : Hid (NS.length = n) := by show _ = _; rw [hNS, hn]; simp
  have HW1 := Lib.hid hW1
  unfold shpV at CD CF CO ⊢
  clear hv hs hS hL hW1 b1 h1 hn hD hF hO hA hLt hNS hT
  obtain ⟨k0, k1, k2⟩ := KS.out W1 (Below.refl _ _)
  by_cases h8 : 8 < n
  · have g8 : (8 : Int) < (n : Int) := by omega
    have HR : Hid (csE ts d s = 5) := by show _ = _; rw [HE.out, decide_eq_true h8]; rfl
    clear h8
    go_enter Tryd.func19, Tryd.ntmps19
    go_wp2_with fail
    go_ret
    exact ⟨by rw [HR.out]; rfl, by first | exact HBW.out _ (HW1.out ▸ Below.refl _ _) | exact (Below.refl _ _).alloc (Nat.le_refl _) _⟩
  · have g8 : ¬ (8 : Int) < (n : Int) := by omega
    have HE2 : Hid (csE ts d s = if D then 5 else if !A || !F then 4 else if !T then 6 else if !L then 12 else if !O then 7 else 0) := by show _ = _; rw [HE.out, decide_eq_false h8]; rfl
    have hn8 : n ≤ 8 := by omega
    clear h8 HE
    go_enter Tryd.func19, Tryd.ntmps19
    go_wp2_with fail
    rw [← HW1.out]
    refine (CD.out W1 (Below.refl _ _)).mono ?_
    rintro e w2 ⟨rfl, hb⟩
    have HB2 : Hid (Below W1.heap.size W1 w2) := hb
    clear hb k0 k1 k2
    cases D with
    | true =>
      have HR : Hid (csE ts d s = 5) := HE2.out
      go_wp2
      go_ret
      exact ⟨by rw [HR.out]; rfl, HBW.out _ HB2.out⟩
    | false =>
      have HE3 : Hid (csE ts d s = if !A || !F then 4 else if !T then 6 else if !L then 12 else if !O then 7 else 0) := HE2.out
      go_wp2_with fail
      refine (CE.out w2 HB2.out).mono ?_
      rintro e w3 ⟨rfl, hb⟩
      have HB3 := Lib.hid (HB2.out.trans (hb.mono HB2.out.size))
      clear hb CE CD HE2
      cases A with
      | false =>
        have HR : Hid (csE ts d s = 4) := HE3.out
        go_wp2
        go_ret
        exact ⟨by rw [HR.out]; rfl, HBW.out _ HB3.out⟩
      | true =>
        have HE4 : Hid (csE ts d s = if !F then 4 else if !T then 6 else if !L then 12 else if !O then 7 else 0) := HE3.out
        obtain ⟨k0, k1, k2⟩ := KS.out w3 HB3.out
        go_wp2_with fail
        refine (CF.out w3 HB3.out).mono ?_
        rintro e w4 ⟨rfl, hb⟩
        have HB4 := Lib.hid (HB3.out.trans (hb.mono HB3.out.size))
        clear hb CF HE3 k0 k1 k2
        cases F with
        | false =>
          have HR : Hid (csE ts d s = 4) := HE4.out
          go_wp2
          go_ret
          exact ⟨by rw [HR.out]; rfl, HBW.out _ HB4.out⟩
        | true =>
          have HE5 : Hid (csE ts d s = if !T then 6 else if !L then 12 else if !O then 7 else 0) := HE4.out
          go_wp2_with fail
          go_loopw [5, 25] (fun x i wx => ∃ k : Nat, k ≤ n ∧ i = .int .i64 k ∧ wx.ownsRow W1.heap.size 9 1 x k ((NS.take k).map strV) ∧ Hid (Below W1.heap.size W1 wx)) (fun _ i _ => n - (intOf i).toNat)
          case atStart => exact ⟨0, Nat.zero_le _, rfl, ⟨rfl, .inl ⟨rfl, rfl⟩⟩, HB4.out⟩
          case round =>
            obtain ⟨k, hk, rfl, hrow, hb⟩ := hrel
            obtain ⟨px, cx, rfl⟩ := ownsRow_slice hrow
            by_cases hlt : k < n
            · have hkl : k < ts.length := by have := HN.out; omega
              obtain ⟨bt, off, p1, c1, p2, c2, p3, c3, rfl, ⟨h0, h1, h2, h3⟩, htab⟩ := (HV.out wr hb.out).at (i := k) hkl
              obtain ⟨t, ht⟩ : ∃ t, t = ts[k] := ⟨_, rfl⟩
              rw [← ht] at h0 h1 h2 h3
              have hnk : (NS.take (k + 1)).map strV = (NS.take k).map strV ++ [strV t.name] := by
                have hkN : k < NS.length := by have := HNL.out; omega
                rw [List.take_succ_eq_append_getElem hkN, List.map_append]
                have : NS[k] = t.name := by rw [ht]; simp [HNS.out]
                rw [this]; rfl
              have HNK := Lib.hid hnk
              have hs0 := hb.out.size
              have lbt : bt < wr.heap.size := cell_lt h0
              have HLT := Lib.hid hrow.lt
              have HROW := Lib.hid hrow
              obtain ⟨LN, hLN⟩ : ∃ x, x = (NS.take k).map strV := ⟨_, rfl⟩
              rw [← hLN] at HROW HNK
              clear ht hnk htab hkl hrow hLN
              go_wp2_with (at_builtin; refine wpList_append_own _ rfl _ _ 22 rfl W1.heap.size 9 i0 (.string ⟨#[]⟩) 1 16 Tryd.underlying22 hi hz0 hz1 hz2 rfl (by decide) _ _ _ rfl ((HROW.out.alloc _).alloc _) ⟨wr.heap.size + 1, 0, none⟩ 1 1 [.string (mkS t.name)] rfl rfl ?c1 ?c2 (by unfold maxLen; omega) (by omega) (by simp; omega) ?_)
              case c1 => intro j u hj; match j, hj with | 0, hj => (simp at hj; subst hj; simp [Addr.add, go_sem])
              case c2 => intro u hu; simp at hu; subst hu; rfl
              intro v' w5 hown' hgrow _
              have hb5 : Below W1.heap.size W1 w5 := Below.grown ((hb.out.alloc hb.out.size _).alloc (by have := hb.out.size; simp; omega) _) hgrow (by simp; omega) (fun j hj => (HLT.out j hj).1)
              have HB5 := Lib.hid hb5
              have hown5 : w5.ownsRow W1.heap.size 9 1 v' (k + 1) ((NS.take (k + 1)).map strV) := by rw [HNK.out]; exact hown'
              clear hown' hgrow hb5 h0 h1 h2 h3 lbt hs0
              go_wp2
              go_roundw
              case rel => exact ⟨k + 1, by omega, by go_num, hown5, HB5⟩
              case measure => simp [intOf]; omega
            · have hkn : k = n := by omega
              have htk : NS.take k = NS := List.take_of_length_le (by have := HNL.out; omega)
              rw [htk] at hrow
              have hnl := HNL.out
              have hRN : RdS wr (.slice px k cx) NS := by
                have e : (NS.map strV).length = k := by simp; omega
                have := rd_own (vs := NS.map strV) (v := .slice px k cx) (by rw [e]; exact hrow) (by rw [e]; omega)
                exact this
              have HRN := Lib.hid hRN
              have CT := Lib.hid (distinct_any _ NS wr hRN)
              rw [← HT.out] at CT
              clear hrow htk hnl hRN HB4 HB3 HB2 hkn
              go_wp2_with fail
              refine CT.out.mono ?_
              rintro e w6 ⟨rfl, rfl⟩
              clear CT
              cases T with
              | false =>
                have HR : Hid (csE ts d s = 6) := HE5.out
                go_wp2
                go_ret
                exact ⟨by rw [HR.out]; rfl, HBW.out _ hb.out⟩
              | true =>
                have HE6 : Hid (csE ts d s = if !L then 12 else if !O then 7 else 0) := HE5.out
                go_wp2_with fail
                refine (CLt.out (by trivial) wr hb.out).mono ?_
                rintro e w7 ⟨rfl, hb7⟩
                have HB7 := Lib.hid (hb.out.trans (hb7.mono hb.out.size))
                have HRN7 := Lib.hid (HRN.out.below hb7)
                clear hb7 HE5
                cases L with
                | false =>
                  have HR : Hid (csE ts d s = 12) := HE6.out
                  go_wp2
                  go_ret
                  exact ⟨by rw [HR.out]; rfl, HBW.out _ HB7.out⟩
                | true =>
                  have HE7 : Hid (csE ts d s = if !O then 7 else 0) := HE6.out
                  obtain ⟨k0, k1, k2⟩ := KS.out w7 HB7.out
                  go_wp2_with fail
                  refine (CO.out w7 _ HB7.out HRN7.out).mono ?_
                  rintro e w8 ⟨rfl, hb8⟩
                  have HB8 := Lib.hid (HB7.out.trans (hb8.mono HB7.out.size))
                  clear hb8 HE6 k0 k1 k2
                  cases O with
                  | false =>
                    have HR : Hid (csE ts d s = 7) := HE7.out
                    go_wp2
                    go_ret
                    exact ⟨by rw [HR.out]; rfl, HBW.out _ HB8.out⟩
                  | true =>
                    have HR : Hid (csE ts d s = 0) := HE7.out
                    go_wp2
                    go_ret
                    exact ⟨by rw [HR.out]; rfl, HBW.out _ HB8.out⟩
end Go.Proofs.YtfhnigpjmljhbaaDoor.Or
