/- order's ParseShape. -/
import Derived.Test.YtfhnigpjmljhbaaDoorOrPk
set_option linter.unusedVariables false
set_option linter.unusedSimpArgs false
namespace Go.Proofs.YtfhnigpjmljhbaaDoor.Or
open Go.RowKit Go.Shelf Go.WideMaps Go.Maps

/-- What a text is read as, as a shape: whether it is one, the shape, the error. -/
def psR (s : List UInt8) : Shp × List UInt8 × Bool := shapeF (s.length + 1) s false
def psOk (s : List UInt8) : Bool := (!(psR s).2.2 && (psR s).2.1.isEmpty) && formF (s.length + 1) (psR s).1
def psE (s : List UInt8) : Nat := if psOk s then (if deepF 4 (psR s).1 then 5 else 0) else 4
def psF (s : List UInt8) : Shp := if psE s = 0 then (psR s).1 else .mk 0 [] []

set_option maxRecDepth 100000 in
set_option maxHeartbeats 8000000 in
theorem parseShape_any (s : List UInt8) (w : World) (hs : s.length ≤ 900) (hL : LaidOk w) :
    Calls Tryd.prog 31 #[.string (mkS s)] w fun e w' => ∃ v, e = .returned (.tuple #[shpV (psF s) v, .int .i64 (psE s : Nat)]) ∧ KidIn (s.length + 1) w' v (psF s) ∧ Below w.heap.size w w' := by
  obtain ⟨z, hz⟩ : ∃ z, z = w.heap.size := ⟨_, rfl⟩
  obtain ⟨b, hb⟩ : ∃ b, b = w.heap.size + 1 := ⟨_, rfl⟩
  obtain ⟨W2, hW2⟩ : ∃ W2, W2 = (w.alloc (.cells #[.int .u8 0, .string ⟨#[]⟩, .slice none 0 0] 42)).alloc (.cells #[.string (mkS s), .bool false] 89) := ⟨_, rfl⟩
  have b2 : Below w.heap.size w W2 := by rw [hW2]; exact ((Below.refl _ _).alloc (Nat.le_refl _) _).alloc (by simp) _
  have hz2 : W2.heap[z]? = some (.cells #[.int .u8 0, .string ⟨#[]⟩, .slice none 0 0] 42 (0, 0)) := by rw [hW2, hz]; exact heap_alloc_old (heap_alloc_at rfl)
  have hr2 : Rdr b s false W2 := by rw [hW2, hb]; exact heap_alloc_at (by simp only [alloc_size])
  have C := Lib.hid (words_any W2 (hL.below b2))
  have HW2 := Lib.hid hW2; have HB := Lib.hid hb; have HZ := Lib.hid hz; have HB2 := Lib.hid b2; have HZ2 := Lib.hid hz2; have HR2 := Lib.hid hr2
  have HLL := Lib.hid hL; have HS := Lib.hid hs
  obtain ⟨sh, hsh⟩ : ∃ x, x = (psR s).1 := ⟨_, rfl⟩
  obtain ⟨lf, hlf⟩ : ∃ x, x = (psR s).2.1 := ⟨_, rfl⟩
  obtain ⟨lo, hlo⟩ : ∃ x, x = (psR s).2.2 := ⟨_, rfl⟩
  obtain ⟨D, hD⟩ : ∃ x, x = s.length + 1 := ⟨_, rfl⟩
  have HOK : Hid (psOk s = ((!lo && lf.isEmpty) && formF D sh)) := by show _ = _; rw [hsh, hlf, hlo, hD]; rfl
  have HER : Hid (psE s = if psOk s then (if deepF 4 sh then 5 else 0) else 4) := by show _ = _; rw [hsh]; rfl
  have HFR : Hid (psF s = if psE s = 0 then sh else .mk 0 [] []) := by show _ = _; rw [hsh]; rfl
  have HPR : Hid (shapeF D s false = (sh, lf, lo)) := by show _ = _; rw [hsh, hlf, hlo, hD]; rfl
  have HD := Lib.hid hD
  rw [← hD]
  clear hW2 hb hz b2 hz2 hr2 hs hL hsh hlf hlo hD
  go_enter Tryd.func31, Tryd.ntmps31
  go_wp2_with fail
  rw [← HW2.out, ← HB.out, ← HZ.out]
  refine C.out.mono ?_
  rintro e w3 ⟨mb, rfl, hmb, hm, hb3⟩
  have HR3 := Lib.hid (HR2.out.below hb3)
  have HM3 := Lib.hid hm
  have HZ3 := Lib.hid (heap_below hb3 HZ2.out)
  have HB3 := Lib.hid (HB2.out.trans (hb3.mono HB2.out.size))
  clear hm hmb hb3 C
  go_wp2_with fail
  refine (shape_any D b mb s false w3 HR3.out (by have := HD.out; omega) HS.out HM3.out).mono ?_
  rintro e w4 ⟨v, rfl, hk, h4⟩
  rw [HPR.out] at hk h4 ⊢
  have lz3 : z < w3.heap.size := heap_lt HZ3.out
  have hzb : z ≠ b := by have := HB.out; have := HZ.out; omega
  have HZL := Lib.hid lz3
  obtain ⟨pv, cv, rfl⟩ := hk.form
  obtain ⟨q, hq⟩ : ∃ q, q = w4.heap.size := ⟨_, rfl⟩
  obtain ⟨W5, hW5⟩ : ∃ W5, W5 = w4.alloc (.cells #[.int .u8 sh.k, .string (mkS sh.nm), .slice pv sh.n cv] 42) := ⟨_, rfl⟩
  have b5 : Below w4.heap.size w4 W5 := by rw [hW5]; exact (Below.refl _ _).alloc (Nat.le_refl _) _
  have hq5 : W5.heap[q]? = some (.cells #[.int .u8 sh.k, .string (mkS sh.nm), .slice pv sh.n cv] 42 (0, 0)) := by rw [hW5, hq]; exact heap_alloc_at rfl
  have HK5 : Hid (KidR w3.heap.size w4.heap.size D W5 (.slice pv sh.n cv) sh) := hk.at (Nat.le_refl _) (Nat.le_refl _) (fun i _ h => b5.block i h)
  have HW4s : Hid (w4.heap.size ≤ W5.heap.size) := b5.size
  have HR5 := Lib.hid (h4.r.below b5)
  have HZ5 : Hid (W5.heap[z]? = some (.cells #[.int .u8 0, .string ⟨#[]⟩, .slice none 0 0] 42 (0, 0))) := heap_below b5 ((h4.d.block z lz3 (fun e => hzb e)).trans HZ3.out)
  have HB5 : Hid (Below w.heap.size w W5) := by
    have h1 : Below w.heap.size w3 w4 := h4.d.below HB3.out.size (fun k hk e => by have e' : k = b := e; have := HB.out; omega)
    exact (HB3.out.trans h1).trans (b5.mono (by have := HB3.out.size; have := h4.d.size; omega))
  have HQ5 := Lib.hid hq5; have HW5 := Lib.hid hW5; have HQ := Lib.hid hq
  unfold shpV
  clear hk h4 lz3 hzb hq hW5 b5 hq5
  go_upto_region 3 with fail
  go_wp2_with fail
  rw [← HW5.out, ← HQ.out]
  refine (ended_any b lf lo W5 HR5.out).mono ?_
  rintro e w5 ⟨rfl, hw5⟩
  subst hw5
  obtain ⟨y, hy⟩ : ∃ y, y = (!lo && lf.isEmpty) := ⟨_, rfl⟩
  rw [← hy] at HOK ⊢
  clear hy
  cases y with
  | false =>
    have hok : psOk s = false := by rw [HOK.out]; rfl
    have HERR : Hid (psE s = 4) := by show _ = _; rw [HER.out, hok]; rfl
    have HRES : Hid (psF s = .mk 0 [] []) := by show _ = _; rw [HFR.out, HERR.out]; rfl
    have HZV := HZ5; have HBV := HB5
    obtain ⟨⟨y0, y1, y2⟩, g0, g1, g2⟩ := three_cells HZV.out
    have hD1 : ∃ d, D = d + 1 := ⟨s.length, HD.out⟩
    obtain ⟨d, rfl⟩ := hD1
    clear hok
    go_wp2
    change bodyPost _ _ _ _ _ (set3 w5 z (.int .u8 0) (.string ⟨#[]⟩) (.slice none 0 0))
    obtain ⟨WF, hWF⟩ : ∃ WF, WF = set3 w5 z (.int .u8 0) (.string ⟨#[]⟩) (.slice none 0 0) := ⟨_, rfl⟩
    rw [← hWF]
    have hzF := set3_heap (x0 := (.int .u8 0)) (x1 := (.string ⟨#[]⟩)) (x2 := (.slice none 0 0)) HZV.out
    rw [← hWF] at hzF
    have HWF := Lib.hid hWF
    obtain ⟨⟨v0, v1, v2⟩, _⟩ := three_cells hzF
    clear hWF hzF
    refine bodyPost_ret (v := .tuple #[.agg #[.int .u8 0, .string ⟨#[]⟩, .slice none 0 0], .int .i64 4]) (by simp [results, Tryd.results31, go_sem, v0, v1, v2]) rfl ⟨.slice none 0 0, ?_, ?_, ?_⟩
    · rw [HRES.out, HERR.out]; rfl
    · rw [HRES.out, HWF.out]
      exact ⟨⟨by show 0 < 256; omega, by show 0 ≤ _; omega⟩, none, 0, rfl, ⟨Nat.zero_le _, Nat.zero_le _⟩, .inl rfl⟩
    · rw [HWF.out]
      exact below_set3 HBV.out (by have := HZ.out; omega)
  | true =>
    obtain ⟨⟨k0, k1, k2⟩, _⟩ := three_cells HQ5.out
    have CF := Lib.hid (formedShape_any D sh _ w5 HK5.out.kid (HLL.out.below HB5.out))
    unfold shpV at CF
    go_wp2_with fail
    refine CF.out.mono ?_
    rintro e w6 ⟨rfl, hb6⟩
    have HZ6 := Lib.hid (heap_below hb6 HZ5.out)
    have HB6 := Lib.hid (HB5.out.trans (hb6.mono HB5.out.size))
    have HQ6 := Lib.hid (heap_below hb6 HQ5.out)
    have HK6 : Hid (KidR w3.heap.size w4.heap.size D w6 (.slice pv sh.n cv) sh) := HK5.out.at (Nat.le_refl _) (Nat.le_refl _) (fun i _ h => hb6.block i (by have := HW4s.out; omega))
    have HW6s : Hid (w4.heap.size ≤ w6.heap.size) := Nat.le_trans HW4s.out hb6.size
    obtain ⟨f, hf⟩ : ∃ f, f = formF D sh := ⟨_, rfl⟩
    rw [← hf] at HOK ⊢
    clear hf hb6 CF k0 k1 k2
    cases f with
    | false =>
      have hok : psOk s = false := by rw [HOK.out]; rfl
      have HERR : Hid (psE s = 4) := by show _ = _; rw [HER.out, hok]; rfl
      have HRES : Hid (psF s = .mk 0 [] []) := by show _ = _; rw [HFR.out, HERR.out]; rfl
      have HZV := HZ6; have HBV := HB6
      obtain ⟨⟨y0, y1, y2⟩, g0, g1, g2⟩ := three_cells HZV.out
      have hD1 : ∃ d, D = d + 1 := ⟨s.length, HD.out⟩
      obtain ⟨d, rfl⟩ := hD1
      clear hok
      go_wp2
      change bodyPost _ _ _ _ _ (set3 w6 z (.int .u8 0) (.string ⟨#[]⟩) (.slice none 0 0))
      obtain ⟨WF, hWF⟩ : ∃ WF, WF = set3 w6 z (.int .u8 0) (.string ⟨#[]⟩) (.slice none 0 0) := ⟨_, rfl⟩
      rw [← hWF]
      have hzF := set3_heap (x0 := (.int .u8 0)) (x1 := (.string ⟨#[]⟩)) (x2 := (.slice none 0 0)) HZV.out
      rw [← hWF] at hzF
      have HWF := Lib.hid hWF
      obtain ⟨⟨v0, v1, v2⟩, _⟩ := three_cells hzF
      clear hWF hzF
      refine bodyPost_ret (v := .tuple #[.agg #[.int .u8 0, .string ⟨#[]⟩, .slice none 0 0], .int .i64 4]) (by simp [results, Tryd.results31, go_sem, v0, v1, v2]) rfl ⟨.slice none 0 0, ?_, ?_, ?_⟩
      · rw [HRES.out, HERR.out]; rfl
      · rw [HRES.out, HWF.out]
        exact ⟨⟨by show 0 < 256; omega, by show 0 ≤ _; omega⟩, none, 0, rfl, ⟨Nat.zero_le _, Nat.zero_le _⟩, .inl rfl⟩
      · rw [HWF.out]
        exact below_set3 HBV.out (by have := HZ.out; omega)
    | true =>
      have hok : psOk s = true := by rw [HOK.out]; rfl
      obtain ⟨⟨k0, k1, k2⟩, _⟩ := three_cells HQ6.out
      have CD := Lib.hid (deeper_any 4 D sh _ w6 (by omega) HK6.out.kid)
      have HOK2 := Lib.hid hok
      unfold shpV at CD
      clear hok
      go_wp2_with fail
      refine CD.out.mono ?_
      rintro e w7 ⟨rfl, hb7⟩
      have HZV := Lib.hid (heap_below hb7 HZ6.out)
      have HBV := Lib.hid (HB6.out.trans (hb7.mono HB6.out.size))
      have HQ7 := Lib.hid (heap_below hb7 HQ6.out)
      have HKV : Hid (KidR w3.heap.size w4.heap.size D w7 (.slice pv sh.n cv) sh) := HK6.out.at (Nat.le_refl _) (Nat.le_refl _) (fun i _ h => hb7.block i (by have := HW6s.out; omega))
      obtain ⟨⟨y0, y1, y2⟩, g0, g1, g2⟩ := three_cells HZV.out
      clear hb7 CD k0 k1 k2
      obtain ⟨⟨k0, k1, k2⟩, _⟩ := three_cells HQ7.out
      obtain ⟨f, hf⟩ : ∃ f, f = deepF 4 sh := ⟨_, rfl⟩
      rw [← hf] at HER ⊢
      clear hf
      cases f with
      | false =>
        have HERR : Hid (psE s = 0) := by show _ = _; rw [HER.out, HOK2.out]; rfl
        have HRES : Hid (psF s = sh) := by show _ = _; rw [HFR.out, HERR.out]; rfl
        go_wp2
        change bodyPost _ _ _ _ _ (set3 w7 z (.int .u8 sh.k) (.string (mkS sh.nm)) (.slice pv sh.n cv))
        obtain ⟨WF, hWF⟩ : ∃ WF, WF = set3 w7 z (.int .u8 sh.k) (.string (mkS sh.nm)) (.slice pv sh.n cv) := ⟨_, rfl⟩
        rw [← hWF]
        have hzF := set3_heap (x0 := (.int .u8 sh.k)) (x1 := (.string (mkS sh.nm))) (x2 := (.slice pv sh.n cv)) HZV.out
        rw [← hWF] at hzF
        have HWF := Lib.hid hWF
        obtain ⟨⟨v0, v1, v2⟩, _⟩ := three_cells hzF
        clear hWF hzF
        refine bodyPost_ret (v := .tuple #[.agg #[.int .u8 sh.k, .string (mkS sh.nm), .slice pv sh.n cv], .int .i64 0]) (by simp [results, Tryd.results31, go_sem, v0, v1, v2]) rfl ⟨.slice pv sh.n cv, ?_, ?_, ?_⟩
        · rw [HRES.out, HERR.out]; rfl
        · rw [HRES.out, HWF.out]
          exact (HKV.out.at (Nat.le_refl _) (Nat.le_refl _) (fun i h1 h2 => set3_other (by have := HZL.out; omega))).kid
        · rw [HWF.out]
          exact below_set3 HBV.out (by have := HZ.out; omega)
      | true =>
        have HERR : Hid (psE s = 5) := by show _ = _; rw [HER.out, HOK2.out]; rfl
        have HRES : Hid (psF s = .mk 0 [] []) := by show _ = _; rw [HFR.out, HERR.out]; rfl
        have hD1 : ∃ d, D = d + 1 := ⟨s.length, HD.out⟩
        obtain ⟨d, rfl⟩ := hD1
        go_wp2
        change bodyPost _ _ _ _ _ (set3 w7 z (.int .u8 0) (.string ⟨#[]⟩) (.slice none 0 0))
        obtain ⟨WF, hWF⟩ : ∃ WF, WF = set3 w7 z (.int .u8 0) (.string ⟨#[]⟩) (.slice none 0 0) := ⟨_, rfl⟩
        rw [← hWF]
        have hzF := set3_heap (x0 := (.int .u8 0)) (x1 := (.string ⟨#[]⟩)) (x2 := (.slice none 0 0)) HZV.out
        rw [← hWF] at hzF
        have HWF := Lib.hid hWF
        obtain ⟨⟨v0, v1, v2⟩, _⟩ := three_cells hzF
        clear hWF hzF
        refine bodyPost_ret (v := .tuple #[.agg #[.int .u8 0, .string ⟨#[]⟩, .slice none 0 0], .int .i64 5]) (by simp [results, Tryd.results31, go_sem, v0, v1, v2]) rfl ⟨.slice none 0 0, ?_, ?_, ?_⟩
        · rw [HRES.out, HERR.out]; rfl
        · rw [HRES.out, HWF.out]
          exact ⟨⟨by show 0 < 256; omega, by show 0 ≤ _; omega⟩, none, 0, rfl, ⟨Nat.zero_le _, Nat.zero_le _⟩, .inl rfl⟩
        · rw [HWF.out]
          exact below_set3 HBV.out (by have := HZ.out; omega)
end Go.Proofs.YtfhnigpjmljhbaaDoor.Or
