/- order's Parse. -/
import Derived.Test.YtfhnigpjmljhbaaDoorOrPf
set_option linter.unusedVariables false
set_option linter.unusedSimpArgs false
namespace Go.Proofs.YtfhnigpjmljhbaaDoor.Or
open Go.RowKit Go.Shelf

theorem zeroT_ty (w : World) : TyT w (.slice none 0 0) (.slice none 0 0) (.slice none 0 0) zeroT :=
  ⟨⟨rfl, .inl ⟨rfl, rfl⟩⟩, ⟨rfl, .inl ⟨rfl, rfl⟩⟩, ⟨fun _ => [], fun i h => by simp [zeroT] at h, [], ⟨rfl, .inl ⟨rfl, rfl⟩⟩, fun i h => by simp at h⟩, by simp [zeroT]⟩
/-- Whether a text is read as a table; the table; the error. -/
def parOk (s : List UInt8) : Bool := (!tLost s && (tLeft s).isEmpty) && frmF (tabF s)
def parF (s : List UInt8) : Tab := if parOk s then tabF s else zeroT
def parE (s : List UInt8) : Nat := if parOk s then 0 else 4
theorem tR6_len (s : List UInt8) : (tR6 s).length ≤ s.length := by
  have h1 := cutF_len [108, 97, 116, 116, 105, 99, 101, 32] s
  have h3 := leftF_len (cutF [108, 97, 116, 116, 105, 99, 101, 32] s)
  have h4 := cutF_len [32, 123, 32] (tR5 s)
  have h5 : tR5 s = leftF (cutF [108, 97, 116, 116, 105, 99, 101, 32] s) := by unfold tR5; rfl
  have h6 : tR6 s = cutF [32, 123, 32] (tR5 s) := by unfold tR6; rfl
  rw [h6]; rw [h5] at h4 ⊢; omega
theorem tEs_len (s : List UInt8) : 2 * (tEs s).1.length + (tEs s).2.length ≤ s.length + 2 ∧ ∀ e ∈ (tEs s).1, e.1.length ≤ s.length ∧ e.2.2.length ≤ s.length ∧ ∀ x ∈ e.2.2, x.length ≤ s.length := by
  have h := tR6_len s
  unfold tEs
  generalize tR6 s = y at *
  have h5 := elemsF_len (y.length + 1) y
  refine ⟨by omega, fun e he => ?_⟩
  have := h5.2 e he
  refine ⟨by omega, by omega, fun x hx => ?_⟩
  have := this.2.2 x hx; omega
theorem tab_small (s : List UInt8) (hs : s.length ≤ 900) : Small (tabF s) := by
  have h1 := cutF_len [108, 97, 116, 116, 105, 99, 101, 32] s
  have h2 := wordF_len (cutF [108, 97, 116, 116, 105, 99, 101, 32] s)
  have h5 := tEs_len s
  unfold Small tabF
  simp only
  refine ⟨by unfold tNm; omega, fun x hx => ?_⟩
  unfold tE at hx
  rw [List.mem_map] at hx
  obtain ⟨e, he, rfl⟩ := hx
  have := (h5.2 e he).1
  omega

set_option maxRecDepth 100000 in
set_option maxHeartbeats 8000000 in
theorem parse_any (s : List UInt8) (w : World) (hs : s.length ≤ 900) (hL : LaidOk w) :
    Calls Tryd.prog 24 #[.string (mkS s)] w fun e w' => ∃ xe xa xw, e = .returned (.tuple #[tabV (parF s) xe xa xw, .int .i64 (parE s : Nat)]) ∧ TyT w' xe xa xw (parF s) ∧ Below w.heap.size w w' := by
  obtain ⟨b, hb⟩ : ∃ b, b = w.heap.size + 1 := ⟨_, rfl⟩
  obtain ⟨W2, hW2⟩ : ∃ W2, W2 = (w.alloc (.cells #[.string ⟨#[]⟩, .slice none 0 0, .slice none 0 0, .slice none 0 0] 26)).alloc (.cells #[.string (mkS s), .bool false] 89) := ⟨_, rfl⟩
  have b2 : Below w.heap.size w W2 := by rw [hW2]; exact ((Below.refl _ _).alloc (Nat.le_refl _) _).alloc (by simp) _
  have hz2 : W2.heap[w.heap.size]? = some (.cells #[.string ⟨#[]⟩, .slice none 0 0, .slice none 0 0, .slice none 0 0] 26 (0, 0)) := by rw [hW2]; exact heap_alloc_old (heap_alloc_at rfl)
  have hr2 : Rdr b s false W2 := by rw [hW2, hb]; exact heap_alloc_at (by simp only [alloc_size])
  have hzs : w.heap.size < W2.heap.size := heap_lt hz2
  have C := Lib.hid (table_any b s false W2 hr2 hs)
  have HW2 := Lib.hid hW2; have HB := Lib.hid hb; have HB2 := Lib.hid b2
  have HZ : Hid (∀ V, Diff (fun k => k = b) W2 V → V.heap[w.heap.size]? = some (.cells #[.string ⟨#[]⟩, .slice none 0 0, .slice none 0 0, .slice none 0 0] 26 (0, 0)) ∧ Below w.heap.size w V) := fun V h =>
    ⟨(h.block _ hzs (fun e => by have e' : w.heap.size = b := e; omega)).trans hz2, b2.trans (h.below (Nat.le_of_lt hzs) (fun k hk e => by have e' : k = b := e; omega))⟩
  have HSM := Lib.hid (tab_small s hs)
  have HLL := Lib.hid hL
  obtain ⟨T, hT⟩ : ∃ T, T = tabF s := ⟨_, rfl⟩
  obtain ⟨lf, hlf⟩ : ∃ T, T = tLeft s := ⟨_, rfl⟩
  obtain ⟨lo, hlo⟩ : ∃ T, T = tLost s := ⟨_, rfl⟩
  rw [show (false || tLost s) = tLost s by simp] at C
  rw [← hT, ← hlf, ← hlo] at C
  rw [← hT] at HSM
  have HOK : Hid (parOk s = ((!lo && lf.isEmpty) && frmF T)) := by show _ = _; rw [hT, hlf, hlo]; rfl
  have HPF : Hid (parF s = if parOk s then T else zeroT) := by show _ = _; rw [hT]; rfl
  clear hW2 hb b2 hz2 hr2 hzs hs hL hT hlf hlo
  go_enter Tryd.func24, Tryd.ntmps24
  go_wp2_with fail
  rw [← HW2.out, ← HB.out]
  refine C.out.mono ?_
  rintro e w3 ⟨xe, xa, xw, rfl, hTI, h3⟩
  have HR3 := Lib.hid h3.r
  obtain ⟨hz3, hbl3⟩ := HZ.out w3 h3.d
  obtain ⟨pe, ce, rfl⟩ := hTI.tab.e.form
  obtain ⟨pa, ca, rfl⟩ := hTI.tab.a.form
  obtain ⟨pw, cw, rfl⟩ := hTI.tab.w.form
  obtain ⟨q, hq⟩ : ∃ q, q = w3.heap.size := ⟨_, rfl⟩
  obtain ⟨W4, hW4⟩ : ∃ W4, W4 = w3.alloc (.cells #[.string (mkS T.name), .slice pe T.elems.length ce, .slice pa T.above.length ca, .slice pw T.wrong.length cw] 26) := ⟨_, rfl⟩
  have b4 : Below w3.heap.size w3 W4 := by rw [hW4]; exact (Below.refl _ _).alloc (Nat.le_refl _) _
  have hq4 : W4.heap[q]? = some (.cells #[.string (mkS T.name), .slice pe T.elems.length ce, .slice pa T.above.length ca, .slice pw T.wrong.length cw] 26 (0, 0)) := by rw [hW4, hq]; exact heap_alloc_at rfl
  have HR4 := Lib.hid (HR3.out.below b4)
  have HT4 := Lib.hid (hTI.below b4)
  have HZ4 := Lib.hid (heap_below b4 hz3)
  have HB4 := Lib.hid (hbl3.trans (b4.mono hbl3.size))
  have HQ4 := Lib.hid hq4
  have HW4 := Lib.hid hW4; have HQ := Lib.hid hq
  unfold tabV
  clear hTI h3 hz3 hbl3 hq hW4 b4 hq4 HR3 C
  go_upto_region 3 with fail
  rw [← HW4.out, ← HQ.out]
  go_wp2_with fail
  refine (ended_any b lf lo W4 HR4.out).mono ?_
  rintro e w5 ⟨rfl, hw5⟩
  subst hw5
  obtain ⟨y, hy⟩ : ∃ y, y = (!lo && lf.isEmpty) := ⟨_, rfl⟩
  rw [← hy] at HOK ⊢
  clear hy
  cases y with
  | false =>
    have hok : parOk s = false := by rw [HOK.out]; rfl
    have HPF2 : Hid (parF s = zeroT) := by show _ = _; rw [HPF.out, hok]; rfl
    have HPE : Hid (parE s = 4) := by show _ = _; unfold parE; rw [hok]; rfl
    obtain ⟨⟨y0, y1, y2, y3⟩, g0, g1, g2, g3⟩ := four_cells HZ4.out
    clear hok
    go_wp2
    change bodyPost _ _ _ _ _ (set4 w5 w.heap.size (.string ⟨#[]⟩) (.slice none 0 0) (.slice none 0 0) (.slice none 0 0))
    obtain ⟨WF, hWF⟩ : ∃ WF, WF = set4 w5 w.heap.size (.string ⟨#[]⟩) (.slice none 0 0) (.slice none 0 0) (.slice none 0 0) := ⟨_, rfl⟩
    rw [← hWF]
    have hzF := set4_heap (x0 := (.string ⟨#[]⟩)) (x1 := (.slice none 0 0)) (x2 := (.slice none 0 0)) (x3 := (.slice none 0 0)) HZ4.out
    rw [← hWF] at hzF
    have HWF := Lib.hid hWF
    obtain ⟨⟨v0, v1, v2, v3⟩, _⟩ := four_cells hzF
    clear hWF hzF
    refine bodyPost_ret (v := .tuple #[.agg #[.string ⟨#[]⟩, .slice none 0 0, .slice none 0 0, .slice none 0 0], .int .i64 4]) (by simp [results, Tryd.results24, go_sem, v0, v1, v2, v3]) rfl ⟨.slice none 0 0, .slice none 0 0, .slice none 0 0, ?_, ?_, ?_⟩
    · rw [HPF2.out, HPE.out]; rfl
    · rw [HPF2.out, HWF.out]
      exact zeroT_ty _
    · rw [HWF.out]
      exact below_set4 HB4.out (Nat.le_refl _)
  | true =>
    obtain ⟨⟨k0, k1, k2, k3⟩, _⟩ := four_cells HQ4.out
    have CF := Lib.hid (formed_any T _ _ _ w5 HT4.out.tab HSM.out (HLL.out.below HB4.out))
    unfold tabV at CF
    go_wp2_with fail
    refine CF.out.mono ?_
    rintro e w6 ⟨rfl, hb6⟩
    have HZ6 := Lib.hid (heap_below hb6 HZ4.out)
    have HB6 := Lib.hid (HB4.out.trans (hb6.mono HB4.out.size))
    have HT6 := Lib.hid (HT4.out.below hb6)
    have HQ6 := Lib.hid (heap_below hb6 HQ4.out)
    obtain ⟨⟨y0, y1, y2, y3⟩, g0, g1, g2, g3⟩ := four_cells HZ6.out
    obtain ⟨f, hf⟩ : ∃ f, f = frmF T := ⟨_, rfl⟩
    rw [← hf] at HOK ⊢
    clear hf hb6 CF k0 k1 k2 k3
    cases f with
    | false =>
      have hok : parOk s = false := by rw [HOK.out]; rfl
      have HPF2 : Hid (parF s = zeroT) := by show _ = _; rw [HPF.out, hok]; rfl
      have HPE : Hid (parE s = 4) := by show _ = _; unfold parE; rw [hok]; rfl
      clear hok
      go_wp2
      change bodyPost _ _ _ _ _ (set4 w6 w.heap.size (.string ⟨#[]⟩) (.slice none 0 0) (.slice none 0 0) (.slice none 0 0))
      obtain ⟨WF, hWF⟩ : ∃ WF, WF = set4 w6 w.heap.size (.string ⟨#[]⟩) (.slice none 0 0) (.slice none 0 0) (.slice none 0 0) := ⟨_, rfl⟩
      rw [← hWF]
      have hzF := set4_heap (x0 := (.string ⟨#[]⟩)) (x1 := (.slice none 0 0)) (x2 := (.slice none 0 0)) (x3 := (.slice none 0 0)) HZ6.out
      rw [← hWF] at hzF
      have HWF := Lib.hid hWF
      obtain ⟨⟨v0, v1, v2, v3⟩, _⟩ := four_cells hzF
      clear hWF hzF
      refine bodyPost_ret (v := .tuple #[.agg #[.string ⟨#[]⟩, .slice none 0 0, .slice none 0 0, .slice none 0 0], .int .i64 4]) (by simp [results, Tryd.results24, go_sem, v0, v1, v2, v3]) rfl ⟨.slice none 0 0, .slice none 0 0, .slice none 0 0, ?_, ?_, ?_⟩
      · rw [HPF2.out, HPE.out]; rfl
      · rw [HPF2.out, HWF.out]
        exact zeroT_ty _
      · rw [HWF.out]
        exact below_set4 HB6.out (Nat.le_refl _)
    | true =>
      have hok : parOk s = true := by rw [HOK.out]; rfl
      have HPF2 : Hid (parF s = T) := by show _ = _; rw [HPF.out, hok]; rfl
      have HPE : Hid (parE s = 0) := by show _ = _; unfold parE; rw [hok]; rfl
      obtain ⟨⟨k0, k1, k2, k3⟩, _⟩ := four_cells HQ6.out
      clear hok
      go_wp2
      change bodyPost _ _ _ _ _ (set4 w6 w.heap.size (.string (mkS T.name)) (.slice pe T.elems.length ce) (.slice pa T.above.length ca) (.slice pw T.wrong.length cw))
      obtain ⟨WF, hWF⟩ : ∃ WF, WF = set4 w6 w.heap.size (.string (mkS T.name)) (.slice pe T.elems.length ce) (.slice pa T.above.length ca) (.slice pw T.wrong.length cw) := ⟨_, rfl⟩
      rw [← hWF]
      have hzF := set4_heap (x0 := (.string (mkS T.name))) (x1 := (.slice pe T.elems.length ce)) (x2 := (.slice pa T.above.length ca)) (x3 := (.slice pw T.wrong.length cw)) HZ6.out
      rw [← hWF] at hzF
      have HWF := Lib.hid hWF
      obtain ⟨⟨v0, v1, v2, v3⟩, _⟩ := four_cells hzF
      clear hWF hzF
      refine bodyPost_ret (v := .tuple #[.agg #[.string (mkS T.name), .slice pe T.elems.length ce, .slice pa T.above.length ca, .slice pw T.wrong.length cw], .int .i64 0]) (by simp [results, Tryd.results24, go_sem, v0, v1, v2, v3]) rfl ⟨.slice pe T.elems.length ce, .slice pa T.above.length ca, .slice pw T.wrong.length cw, ?_, ?_, ?_⟩
      · rw [HPF2.out, HPE.out]; rfl
      · rw [HPF2.out, HWF.out]
        exact HT6.out.set4 HZ6.out
      · rw [HWF.out]
        exact below_set4 HB6.out (Nat.le_refl _)
end Go.Proofs.YtfhnigpjmljhbaaDoor.Or
