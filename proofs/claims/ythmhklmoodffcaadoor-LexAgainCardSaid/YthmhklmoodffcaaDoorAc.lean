/- The reference's Alike; what LexAgain's texts come to. -/
import Derived.Test.YthmhklmoodffcaaDoorAb
import Derived.Test.YthmhklmoodffcaaDoorCb
set_option linter.unusedVariables false
set_option linter.unusedSimpArgs false
namespace Go.Proofs.YthmhklmoodffcaaDoor
open Go.RowKit Go.Shelf

set_option maxRecDepth 100000 in
set_option maxHeartbeats 4000000 in
theorem alike_any (v u : Value) (ls ms : List Lx) (w : World) (hv : ReadsLx w v ls) (hu : ReadsLx w u ms) :
    Calls Tryd.prog 38 #[v, u] w fun e w' => e = .returned (.bool (decide (ls.map kt = ms.map kt))) ∧ Below w.heap.size w w' := by
  obtain ⟨p, cap, rfl, hl, hv⟩ := hv
  obtain ⟨q, cap2, rfl, hl2, hu⟩ := hu
  obtain ⟨n, hn⟩ : ∃ n, n = ls.length := ⟨_, rfl⟩
  obtain ⟨m, hm⟩ : ∃ m, m = ms.length := ⟨_, rfl⟩
  rw [← hn] at hl ⊢
  rw [← hm] at hl2 ⊢
  by_cases hnm : n = m
  case neg =>
    have hb : ((n : Int) != (m : Int)) = true := by rw [bne_iff_ne]; omega
    have HF : Hid (decide (ls.map kt = ms.map kt) = false) := by
      show _ = _
      rw [decide_eq_false_iff_not]; intro h
      have := congrArg List.length h
      simp at this; omega
    clear hv hu hnm hn hm
    go_enter Tryd.func38, Tryd.ntmps38
    go_wp2
    go_ret
    exact ⟨ret_bool HF.out.symm, Below.refl _ _⟩
  case pos =>
    subst hnm
    have hb : ((n : Int) != (n : Int)) = false := by simp
    have HV := Lib.hid hv; have HU := Lib.hid hu
    have HN := Lib.hid hn; have HM := Lib.hid hm
    clear hv hu hn hm
    go_enter Tryd.func38, Tryd.ntmps38
    go_wp2
    go_loopw [5] (fun i wr => ∃ k : Nat, k ≤ n ∧ i = .int .i64 k ∧ Hid (∀ j, j < k → (ls.map kt)[j]? = (ms.map kt)[j]?) ∧ Below w.heap.size w wr) (fun i _ => n - (intOf i).toNat)
    case atStart => exact ⟨0, Nat.zero_le _, rfl, fun j hj => by omega, Below.refl _ _⟩
    case round =>
      obtain ⟨k, hk, rfl, hr, hbel⟩ := hrel
      by_cases hlt : k < n
      · have hv := HV.out; have hu := HU.out
        rcases hv with hv | ⟨b, off, rfl, hv⟩
        · have := HN.out; have := HM.out; omega
        rcases hu with hu | ⟨b2, off2, rfl, hu⟩
        · have := HN.out; have := HM.out; omega
        have hla : k < ls.length := by have := HN.out; omega
        have hlb : k < ms.length := by have := HM.out; omega
        obtain ⟨a1, a2, a3⟩ := hv k hla
        obtain ⟨c1, c2, c3⟩ := hu k hlb
        obtain ⟨hc, hf⟩ := bcell' hbel
        rw [← hc _ _ (cell_lt a1)] at a1; rw [← hc _ _ (cell_lt a2)] at a2; rw [← hc _ _ (cell_lt a3)] at a3
        rw [← hc _ _ (cell_lt c1)] at c1; rw [← hc _ _ (cell_lt c2)] at c2; rw [← hc _ _ (cell_lt c3)] at c3
        have hstep : Hid (kt ls[k] = kt ms[k] → ∀ j, j < k + 1 → (ls.map kt)[j]? = (ms.map kt)[j]?) := fun h j hj => by
          by_cases e : j = k
          · subst e; rw [List.getElem?_map, List.getElem?_map, List.getElem?_eq_getElem hla, List.getElem?_eq_getElem hlb]
            show some (kt ls[j]) = some (kt ms[j])
            rw [h]
          · exact hr.out j (by omega)
        have hne : Hid (kt ls[k] ≠ kt ms[k] → decide (ls.map kt = ms.map kt) = false) := fun h => by
          rw [decide_eq_false_iff_not]; intro e
          have e2 := congrArg (fun l => l[k]?) e
          simp only [List.getElem?_map, List.getElem?_eq_getElem hla, List.getElem?_eq_getElem hlb, Option.map_some, Option.some.injEq] at e2
          exact h e2
        obtain ⟨x, hx⟩ : ∃ x, x = ls[k] := ⟨_, rfl⟩
        obtain ⟨y, hy⟩ : ∃ y, y = ms[k] := ⟨_, rfl⟩
        rw [← hx] at a1 a2 a3 hstep hne
        rw [← hy] at c1 c2 c3 hstep hne
        obtain ⟨x1, x2, x3⟩ := x
        obtain ⟨y1, y2, y3⟩ := y
        simp only [kt] at hstep hne
        have hbl1 : b < wr.heap.size := cell_lt a1
        have hbl2 : b2 < wr.heap.size := cell_lt c1
        clear hx hy hv hu hc hf hr HV HU hla hlb a3 c3
        by_cases e1 : x1 = y1
        · subst e1
          have g0 : ((x1 : Int) != (x1 : Int)) = false := by simp
          by_cases e2 : x2 = y2
          · subst e2
            have HS := Lib.hid (hstep.out rfl)
            have g1 : ((mkS x2).toList == (mkS x2).toList) = true := by simp
            clear hstep hne
            go_wp2
            go_quiet (fail)
            go_wp2
            go_roundw
            case rel => exact ⟨k + 1, by omega, by go_num, HS.out, hbel.trans (below_drewAt _ _ _)⟩
            case measure => simp [intOf]; omega
          · have HS := Lib.hid (hne.out (by simp [e2]))
            have g1 : ((mkS x2).toList == (mkS y2).toList) = false := by rw [beq_eq_false_iff_ne, ne_eq, mkS_tl]; exact e2
            clear hstep hne e2
            go_wp2
            go_quiet (fail)
            go_wp2
            go_ret
            exact ⟨ret_bool HS.out.symm, hbel.trans (below_drewAt _ _ _)⟩
        · have HS := Lib.hid (hne.out (by simp [e1]))
          have g1 : ((x1 : Int) != (y1 : Int)) = true := by rw [bne_iff_ne]; omega
          clear hstep hne e1
          go_wp2
          go_quiet (fail)
          go_wp2
          go_ret
          exact ⟨ret_bool HS.out.symm, hbel.trans (below_drewAt _ _ _)⟩
      · have HE : Hid (decide (ls.map kt = ms.map kt) = true) := by
          show _ = _
          rw [decide_eq_true_iff]
          apply List.ext_getElem?
          intro j
          by_cases hj : j < k
          · exact hr.out j hj
          · have := HN.out; have := HM.out
            rw [List.getElem?_eq_none (by simp; omega), List.getElem?_eq_none (by simp; omega)]
        clear hr HV HU
        go_wp2
        go_ret
        exact ⟨ret_bool HE.out.symm, hbel⟩

theorem right_of {ls : List Lx} (h : ∀ z ∈ ls, Good z) : ls.all rightF = true := by
  rw [List.all_eq_true]
  intro z hz
  have hg := h z hz
  unfold Good at hg
  unfold rightF kindR
  rw [hg]; simp
/-- What a text's bare text comes to. -/
theorem again_facts (s : List UInt8) (h : (scanF s).2.2 = 0) :
    joinF (scanF s).1 = (joinT (scanF s).1, 0) ∧ (joinT (scanF s).1).length ≤ s.length ∧ (scanF s).1.length ≤ s.length ∧ (scanF (joinT (scanF s).1)).2.2 = 0 ∧ (scanF s).1.map kt = (scanF (joinT (scanF s).1)).1.map kt ∧
    (∀ i, i < (joinT (scanF s).1).length → (joinT (scanF s).1).getD i 0 = 32 → (scanF ((joinT (scanF s).1).take i ++ (joinT (scanF s).1).drop (i + 1))).2.2 = 0 → (scanF s).1.map kt ≠ (scanF ((joinT (scanF s).1).take i ++ (joinT (scanF s).1).drop (i + 1))).1.map kt) := by
  obtain ⟨c1, k1⟩ := scan_toks h
  have hsl := chkE_len c1
  have hl := scanF_len s
  obtain ⟨ls, hls⟩ : ∃ ls, ls = (scanF s).1 := ⟨_, rfl⟩
  rw [← hls] at k1 hl ⊢
  have hg := toks_good _ _ _ k1
  have hb := bare_len0 _ _ _ k1
  rw [blankL_length] at hb
  rw [joinT_eq]
  have hbytes := bare_bytes ls none hg
  have hcount : ls.length ≤ s.length := by
    rcases toks_count _ _ _ k1 with h | h
    · rw [blankL_length] at h; omega
    · rw [h]; simp
  have hchk : ∀ u : List UInt8, u.length ≤ 2500 → (∀ c ∈ u, cls c.toNat ≠ 0 ∧ c ≠ 37) → chkE u = 0 := fun u hu hc => chkE_zero.2 ⟨hu, fun i hi => (hc _ (getD_in hi)).1⟩
  obtain ⟨zs, z1, z2⟩ := bare_toks ls none [] hg
  rw [List.nil_append] at z1
  have hzl : zs.length = ls.length := by have := congrArg List.length z2; simpa using this
  have hct := hchk (bare none ls) (by omega) hbytes
  have hscan := scanF_clean hct (fun c hc => (hbytes c hc).2) (zs := zs) z1 (by omega)
  refine ⟨?_, hb, hcount, by rw [hscan], by rw [hscan]; exact z2.symm, ?_⟩
  · unfold joinF
    rw [if_neg (by omega), if_pos (right_of hg), joinT_eq, if_neg (by omega)]
  · intro i hi h32 hs0 heq
    cases ls with
    | nil => simp [bare] at hi
    | cons y ys =>
      have hy := hg y (List.mem_cons_self ..)
      have hpos : 0 < y.2.1.length := List.length_pos_iff.2 hy.ne
      have e0 : bare none (y :: ys) = [] ++ (y.2.1 ++ bare (some y.2.1) ys) := by rw [bare]; simp [sepP]
      rw [e0] at hi h32 hs0 heq
      obtain ⟨k3, k4⟩ := scan_toks hs0
      have hsub : ∀ c ∈ (([] : List UInt8) ++ (y.2.1 ++ bare (some y.2.1) ys)).take i ++ (([] : List UInt8) ++ (y.2.1 ++ bare (some y.2.1) ys)).drop (i + 1), c ≠ 37 := fun c hc => by
        rw [← e0] at hc
        rcases List.mem_append.1 hc with hc | hc
        · exact (hbytes c (List.mem_of_mem_take hc)).2
        · exact (hbytes c (List.mem_of_mem_drop hc)).2
      rw [blankL_eq, blankF_id _ hsub] at k4
      have hiy : y.2.1.length ≤ i := by
        refine Nat.le_of_not_lt fun hlt => ?_
        rw [getD_mid (by simp) (by simpa using hlt)] at h32
        exact (tok_bytes hy _ (getD_in (v := y.2.1) (by simpa using hlt))).2.2 h32
      have hst : pst isGap ((([] : List UInt8) ++ (y.2.1 ++ bare (some y.2.1) ys)).take i ++ (([] : List UInt8) ++ (y.2.1 ++ bare (some y.2.1) ys)).drop (i + 1)) 0 = 0 := by
        rw [List.nil_append, List.take_append, List.take_of_length_le hiy, List.append_assoc]
        have := gapTo [] [] y.2.1 ((bare (some y.2.1) ys).take (i - y.2.1.length) ++ (y.2.1 ++ bare (some y.2.1) ys).drop (i + 1)) (by simp) hy.ne hy.solid
        simpa using this
      rw [hst] at k4
      exact rem_toks ys y [] i hg (Nat.zero_le _) hi h32 _ k4 heq.symm
end Go.Proofs.YthmhklmoodffcaaDoor
