/- Lists of tables in memory; every at them; namesOnly. -/
import Derived.Test.YtfhnigpjmljhbaaDoorOrBv
import Derived.Test.YtfhnigpjmljhbaaDoorOrAd
import Derived.Test.YtfhnigpjmljhbaaDoorOrDb
set_option linter.unusedVariables false
set_option linter.unusedSimpArgs false
namespace Go.Proofs.YtfhnigpjmljhbaaDoor.Or
open Go.RowKit Go.Shelf

/-- A list of tables in memory. -/
def TabsIn (w : World) (v : Value) (ts : List Tab) : Prop :=
  ∃ (p : Option Addr) (cap : Nat), v = .slice p ts.length cap ∧ (ts.length ≤ 1000 ∧ ts.length ≤ cap) ∧
    (ts.length = 0 ∨ ∃ b off, p = some ⟨b, off, none⟩ ∧ ∀ i (h : i < ts.length), ∃ p1 c1 p2 c2 p3 c3, (w.cell? ⟨b, off + i * 4, none⟩ = some (.string (mkS ts[i].name)) ∧ w.cell? ⟨b, off + i * 4 + 1, none⟩ = some (.slice p1 ts[i].elems.length c1) ∧ w.cell? ⟨b, off + i * 4 + 2, none⟩ = some (.slice p2 ts[i].above.length c2) ∧ w.cell? ⟨b, off + i * 4 + 3, none⟩ = some (.slice p3 ts[i].wrong.length c3)) ∧ TabIn w (.slice p1 ts[i].elems.length c1) (.slice p2 ts[i].above.length c2) (.slice p3 ts[i].wrong.length c3) ts[i])
theorem TabsIn.below {w w' : World} {v : Value} {ts : List Tab} (h : TabsIn w v ts) (hb : Below w.heap.size w w') : TabsIn w' v ts := by
  obtain ⟨p, cap, e, hl, h0⟩ := h
  refine ⟨p, cap, e, hl, ?_⟩
  rcases h0 with h0 | ⟨b, off, e2, hc⟩
  · exact .inl h0
  · refine .inr ⟨b, off, e2, fun i hi => ?_⟩
    obtain ⟨p1, c1, p2, c2, p3, c3, ⟨g0, g1, g2, g3⟩, g⟩ := hc i hi
    exact ⟨p1, c1, p2, c2, p3, c3, ⟨(hb.cell (cell_lt g0)).trans g0, (hb.cell (cell_lt g1)).trans g1, (hb.cell (cell_lt g2)).trans g2, (hb.cell (cell_lt g3)).trans g3⟩, g.below hb⟩
theorem TabsIn.form {w : World} {v : Value} {ts : List Tab} (h : TabsIn w v ts) : ∃ p c, v = .slice p ts.length c ∧ ts.length ≤ 1000 := let ⟨p, c, e, hl, _⟩ := h; ⟨p, c, e, hl.1⟩
theorem TabsIn.at {w : World} {p : Option Addr} {n cap : Nat} {ts : List Tab} (h : TabsIn w (.slice p n cap) ts) {i : Nat} (hi : i < ts.length) :
    ∃ b off p1 c1 p2 c2 p3 c3, p = some ⟨b, off, none⟩ ∧ (w.cell? ⟨b, off + i * 4, none⟩ = some (.string (mkS ts[i].name)) ∧ w.cell? ⟨b, off + i * 4 + 1, none⟩ = some (.slice p1 ts[i].elems.length c1) ∧ w.cell? ⟨b, off + i * 4 + 2, none⟩ = some (.slice p2 ts[i].above.length c2) ∧ w.cell? ⟨b, off + i * 4 + 3, none⟩ = some (.slice p3 ts[i].wrong.length c3)) ∧ TabIn w (.slice p1 ts[i].elems.length c1) (.slice p2 ts[i].above.length c2) (.slice p3 ts[i].wrong.length c3) ts[i] := by
  obtain ⟨p', cap', he, hl, h0⟩ := h
  simp only [Value.slice.injEq] at he
  obtain ⟨rfl, rfl, rfl⟩ := he
  rcases h0 with h0 | ⟨b, off, rfl, hc⟩
  · omega
  · obtain ⟨p1, c1, p2, c2, p3, c3, g, g'⟩ := hc i hi
    exact ⟨b, off, p1, c1, p2, c2, p3, c3, rfl, g, g'⟩

set_option maxRecDepth 100000 in
set_option maxHeartbeats 4000000 in
theorem everyTab_any (v : Value) (ts : List Tab) (g : Nat) (p : Tab → Bool) (w : World) (hv : TabsIn w v ts) (eg : ∀ args w, (callFunc g args).run Tryd.prog w = .ok (.enter g args) w)
    (hp : ∀ t ∈ ts, ∀ W xe xa xw, Below w.heap.size w W → TabIn W xe xa xw t → Calls Tryd.prog g #[tabV t xe xa xw] W fun e W' => e = .returned (.bool (p t)) ∧ Below W.heap.size W W') :
    Calls Tryd.prog 48 #[v, .func (.func g) #[] #[]] w fun e w' => e = .returned (.bool (ts.all p)) ∧ Below w.heap.size w w' := by
  obtain ⟨q, cap, rfl, hl⟩ := hv.form
  have HV := Lib.hid hv; have HP := Lib.hid hp
  obtain ⟨n, hn⟩ : ∃ n, n = ts.length := ⟨_, rfl⟩
  rw [← hn] at hl HV ⊢
  have HN := Lib.hid hn
  clear hv hp hn
  go_enter Tryd.func48, Tryd.ntmps48
  go_wp2
  go_loopw [9] (fun i wr => ∃ k : Nat, k ≤ n ∧ i = .int .i64 k ∧ Hid ((ts.take k).all p = true) ∧ Hid (Below w.heap.size w wr)) (fun i _ => n - (intOf i).toNat)
  case atStart => exact ⟨0, Nat.zero_le _, rfl, rfl, Below.refl _ _⟩
  case round =>
    obtain ⟨k, hk, rfl, hr, hb⟩ := hrel
    by_cases hlt : k < n
    · have hkl : k < ts.length := by have := HN.out; omega
      obtain ⟨b, off, p1, c1, p2, c2, p3, c3, rfl, ⟨h0, h1, h2, h3⟩, h4⟩ := (HV.out.below hb.out).at (i := k) hkl
      obtain ⟨t, ht⟩ : ∃ t, t = ts[k] := ⟨_, rfl⟩
      rw [← ht] at h0 h1 h2 h3 h4
      have lb1 : b < wr.heap.size := cell_lt h1
      have hmem : t ∈ ts := by rw [ht]; exact List.getElem_mem _
      have htk : (ts.take (k + 1)).all p = ((ts.take k).all p && p t) := by rw [List.take_succ_eq_append_getElem hkl, List.all_append, ← ht]; simp
      have hsub : p t = false → ts.all p = false := fun h => by
        refine (Bool.not_eq_true _).mp fun h5 => ?_
        rw [List.all_eq_true] at h5
        have := h5 t hmem
        rw [h] at this; cases this
      have C := Lib.hid (HP.out t hmem (wr.alloc (.cells #[.string (mkS t.name), .slice p1 t.elems.length c1, .slice p2 t.above.length c2, .slice p3 t.wrong.length c3] 26)) _ _ _ (hb.out.alloc hb.out.size _) (h4.below ((Below.refl _ _).alloc (Nat.le_refl _) _)))
      unfold tabV at C
      have HTK := Lib.hid htk; have HSUB := Lib.hid hsub
      clear h4 ht hmem htk hsub hkl
      cases hpk : p t with
      | false =>
        have HS := Lib.hid (HSUB.out hpk)
        rw [hpk] at C
        clear hpk hr
        go_wp2_with fail
        refine C.out.mono ?_
        rintro e w1 ⟨rfl, hb1⟩
        have HB1 := Lib.hid ((hb.out.alloc hb.out.size _).trans (hb1.mono (by have := hb.out.size; simp; omega)))
        clear hb1
        go_wp2
        go_ret
        exact ⟨ret_bool HS.out.symm, HB1.out⟩
      | true =>
        have HS : Hid ((ts.take (k + 1)).all p = true) := by show _ = _; rw [HTK.out, hr.out, hpk]; rfl
        rw [hpk] at C
        clear hpk hr
        go_wp2_with fail
        refine C.out.mono ?_
        rintro e w1 ⟨rfl, hb1⟩
        have HB1 := Lib.hid ((hb.out.alloc hb.out.size _).trans (hb1.mono (by have := hb.out.size; simp; omega)))
        clear hb1
        go_wp2
        go_roundw
        case rel => exact ⟨k + 1, by omega, by go_num, HS, HB1⟩
        case measure => simp [intOf]; omega
    · have HS : Hid (ts.all p = true) := by
        show _ = _
        have := hr.out
        rwa [List.take_of_length_le (by have := HN.out; omega)] at this
      clear hr
      go_wp2
      go_ret
      exact ⟨ret_bool HS.out.symm, hb.out⟩

set_option maxRecDepth 100000 in
set_option maxHeartbeats 4000000 in
theorem isLat_clo (t : Tab) (ve va vw : Value) (w : World) (hT : TabIn w ve va vw t) (hf : frmF t = true) (hL : LaidOk w) :
    Calls Tryd.prog 52 #[tabV t ve va vw] w fun e w' => e = .returned (.bool (latF t)) ∧ Below w.heap.size w w' := by
  obtain ⟨W1, hW1⟩ : ∃ W1, W1 = w.alloc (Obj.cells #[.string (mkS t.name), ve, va, vw] 26) := ⟨_, rfl⟩
  have b1 : Below w.heap.size w W1 := by rw [hW1]; exact (Below.refl _ _).alloc (Nat.le_refl _) _
  have C := Lib.hid (walk_any t ve va vw W1 (hT.below b1) hf)
  have HL := Lib.hid hL; have HW1 := Lib.hid hW1; have HB1 := Lib.hid b1
  obtain ⟨pe, ce, rfl⟩ := hT.e.form
  obtain ⟨pa, ca, rfl⟩ := hT.a.form
  obtain ⟨pw, cw, rfl⟩ := hT.w.form
  obtain ⟨K, hK⟩ : ∃ K, K = (brkF t.R t.n t.wr).1 := ⟨_, rfl⟩
  have HLF : Hid (latF t = (K == 0)) := by show _ = _; rw [hK]; rfl
  have CF : Hid (∀ W b, Below w.heap.size w W → WalkedAt W b t → Calls Tryd.prog 54 #[.pointer (some ⟨b, 0, none⟩)] W fun e w' => ∃ A B : Nat, e = .returned (.agg #[.int .u8 K, .int .i64 A, .int .i64 B]) ∧ Below W.heap.size W w') := fun W b hb hw => by
    refine (firstBreak_any b t W hw (hL.below hb).tabOk).mono ?_
    rintro e w' ⟨rfl, h⟩
    exact ⟨_, _, by rw [hK]; rfl, h⟩
  unfold tabV at C ⊢
  clear hT hL hW1 b1 hK
  go_enter Tryd.func52, Tryd.ntmps52
  go_wp2_with fail
  rw [← HW1.out]
  refine C.out.mono ?_
  rintro e w2 ⟨b, rfl, _, hw2, hb2⟩
  have HB2 := Lib.hid (HB1.out.trans (hb2.mono HB1.out.size))
  have HW2 := Lib.hid hw2
  clear hb2 hw2 C
  go_wp2_with fail
  refine (CF.out w2 b HB2.out HW2.out).mono ?_
  rintro e w3 ⟨A, B, rfl, hb3⟩
  have HB3 := Lib.hid (HB2.out.trans (hb3.mono HB2.out.size))
  have hk : ((K : Int) == 0) = (K == 0) := by rw [Bool.eq_iff_iff, beq_iff_eq, beq_iff_eq]; omega
  have HK := Lib.hid hk
  clear hb3 CF hk
  have hfd : ∀ W, (Instr.field 52 (.agg #[.int .u8 (K : Int), .int .i64 (A : Int), .int .i64 (B : Int)]) 0).run Tryd.prog W = .ok (.int .u8 (K : Int)) W := fun _ => by kernel_rfl
  go_wp2
  go_ret
  exact ⟨ret_bool (by rw [HK.out, HLF.out]), HB3.out⟩

/-- Whether a shape names tables of a list alone. -/
def onlyF (names : List (List UInt8)) : Nat → Shp → Bool
  | 0, _ => false
  | d + 1, s => if s.k = 5 then names.contains s.nm else (List.range s.n).all fun i => onlyF names d (s.kid i)
set_option maxRecDepth 100000 in
set_option maxHeartbeats 4000000 in
theorem namesOnly_any (names : List (List UInt8)) : ∀ (d : Nat) (s : Shp) (v u : Value) (w : World), KidIn d w v s → RdS w u names →
    Calls Tryd.prog 55 #[shpV s v, u] w fun e w' => e = .returned (.bool (onlyF names d s)) ∧ Below w.heap.size w w' := by
  intro d
  induction d with
  | zero => intro s v u w hv; exact hv.elim
  | succ d ih =>
    intro s v u w hv hu
    obtain ⟨W2, hW2⟩ : ∃ W2, W2 = (w.alloc (.cells #[.int .u8 s.k, .string (mkS s.nm), v] 42)).alloc (.cells #[u] 22) := ⟨_, rfl⟩
    have b2 : Below w.heap.size w W2 := by rw [hW2]; exact ((Below.refl _ _).alloc (Nat.le_refl _) _).alloc (by simp) _
    have c0 : W2.cell? ⟨w.heap.size, 0, none⟩ = some (.int .u8 s.k) := by rw [hW2]; simp [go_sem]
    have c1 : W2.cell? ⟨w.heap.size, 1, none⟩ = some (.string (mkS s.nm)) := by rw [hW2]; simp [go_sem]
    have c2 : W2.cell? ⟨w.heap.size, 2, none⟩ = some v := by rw [hW2]; simp [go_sem]
    have c3 : W2.cell? ⟨w.heap.size + 1, 0, none⟩ = some u := by rw [hW2]; simp [go_sem]
    have CC : Hid (∀ W, Below W2.heap.size W2 W → Calls Tryd.prog 93 #[u, .string (mkS s.nm)] W fun e w' => e = .returned (.bool (names.contains s.nm)) ∧ W = w') := fun W h => contains_any u names s.nm W (hu.below (b2.trans (h.mono b2.size)))
    have CB : Hid (∀ i W x, i < s.n → Below W2.heap.size W2 W → KidIn d W x (s.kid i) → Calls Tryd.prog 97 (#[shpV (s.kid i) x] ++ #[.pointer (some ⟨w.heap.size + 1, 0, none⟩)]) W fun e W' => e = .returned (.bool (onlyF names d (s.kid i))) ∧ Below W.heap.size W W') := fun i W x hi hW hx => by
      obtain ⟨px, cx, rfl⟩ := hx.form
      obtain ⟨pu, cu, rfl⟩ := hu.form
      obtain ⟨W3, hW3⟩ : ∃ W3, W3 = W.alloc (.cells #[.int .u8 (s.kid i).k, .string (mkS (s.kid i).nm), .slice px (s.kid i).n cx] 42) := ⟨_, rfl⟩
      have b3 : Below W.heap.size W W3 := by rw [hW3]; exact (Below.refl _ _).alloc (Nat.le_refl _) _
      have d3 : W3.cell? ⟨w.heap.size + 1, 0, none⟩ = some (.slice pu names.length cu) := ((hW.trans (b3.mono hW.size)).cell (cell_lt c3)).trans c3
      have C := Lib.hid (ih (s.kid i) _ (.slice pu names.length cu) W3 (hx.below b3) (hu.below (b2.trans ((hW.trans (b3.mono hW.size)).mono b2.size))))
      have lw : w.heap.size + 1 < W.heap.size := Nat.lt_of_lt_of_le (cell_lt c3) hW.size
      have HB3 := Lib.hid b3; have HW3 := Lib.hid hW3
      have c3' : W.cell? ⟨w.heap.size + 1, 0, none⟩ = some (.slice pu names.length cu) := (hW.cell (cell_lt c3)).trans c3
      obtain ⟨X, hX⟩ : ∃ X, X = onlyF names d (s.kid i) := ⟨_, rfl⟩
      rw [← hX] at C ⊢
      unfold shpV at C ⊢
      clear ih hv hu hW2 b2 c0 c1 c2 c3 CC hx hW3 b3 hX hW
      simp only [List.push_toArray, List.append_toArray, List.cons_append, List.nil_append]
      go_enter Tryd.func97, Tryd.ntmps97
      go_wp2_with fail
      rw [← HW3.out]
      refine C.out.mono ?_
      rintro e w4 ⟨rfl, hb4⟩
      have HB4 := Lib.hid (HB3.out.trans (hb4.mono HB3.out.size))
      clear hb4
      go_wp2
      go_ret
      exact ⟨rfl, HB4.out⟩
    have CE : Hid (∀ W, Below W2.heap.size W2 W → Calls Tryd.prog 92 #[v, .func (.func 97) #[] #[.pointer (some ⟨w.heap.size + 1, 0, none⟩)]] W fun e w' => e = .returned (.bool ((List.range s.n).all fun i => onlyF names d (s.kid i))) ∧ Below W.heap.size W w') := fun W h =>
      everyShp_any d v s 97 #[.pointer (some ⟨w.heap.size + 1, 0, none⟩)] (fun i => onlyF names d (s.kid i)) W (hv.below (b2.trans (h.mono b2.size))) (enters_of Tryd.func97 (by kernel_rfl) rfl) (fun i U x hi hb hx => CB.out i U x hi (h.trans (hb.mono h.size)) hx)
    have HO : Hid (onlyF names (d + 1) s = if s.k = 5 then names.contains s.nm else (List.range s.n).all fun i => onlyF names d (s.kid i)) := rfl
    obtain ⟨AL, hAL⟩ : ∃ AL, AL = (List.range s.n).all fun i => onlyF names d (s.kid i) := ⟨_, rfl⟩
    rw [← hAL] at CE HO
    obtain ⟨q, cap, rfl⟩ := hv.form
    obtain ⟨pu, cu, rfl⟩ := hu.form
    obtain ⟨k, hk⟩ : ∃ k, k = s.k := ⟨_, rfl⟩
    have HW2 := Lib.hid hW2; have HB2 := Lib.hid b2
    unfold shpV
    rw [← hk] at HW2 c0 HO ⊢
    clear hv hu ih hAL hW2 b2 CB hk
    by_cases a5 : k = 5
    · have g5 : ((k : Int) == 5) = true := by rw [beq_iff_eq]; omega
      have HR : Hid (onlyF names (d + 1) s = names.contains s.nm) := by show _ = _; rw [HO.out, if_pos a5]
      clear a5 CE
      go_enter Tryd.func55, Tryd.ntmps55
      go_wp2_with fail
      rw [← HW2.out]
      refine (CC.out W2 (Below.refl _ _)).mono ?_
      rintro e w3 ⟨rfl, rfl⟩
      go_wp2
      go_ret
      exact ⟨ret_bool (by rw [HR.out, List.contains_eq_mem]), HB2.out⟩
    · have g5 : ((k : Int) == 5) = false := by rw [beq_eq_false_iff_ne]; omega
      have HR : Hid (onlyF names (d + 1) s = AL) := by show _ = _; rw [HO.out, if_neg a5]
      clear a5 CC
      go_enter Tryd.func55, Tryd.ntmps55
      go_wp2_with fail
      rw [← HW2.out]
      refine (CE.out W2 (Below.refl _ _)).mono ?_
      rintro e w3 ⟨rfl, hb3⟩
      have HB3 := Lib.hid (HB2.out.trans (hb3.mono HB2.out.size))
      clear hb3
      go_wp2
      go_ret
      exact ⟨ret_bool HR.out.symm, HB3.out⟩
end Go.Proofs.YtfhnigpjmljhbaaDoor.Or
