/- The contract of Text. -/
import Derived.Test.YtgbjelglifihnaaDoorOrAb
import Derived.Test.YtgbjelglifihnaaDoorOrBd
set_option linter.unusedVariables false
set_option linter.unusedSimpArgs false
namespace Go.Proofs.YtgbjelglifihnaaDoor.Or
open Go.RowKit Go.Shelf

/-- Texts with another one between them. -/
def joinT (sep : List UInt8) : List (List UInt8) → List UInt8
  | [] => []
  | [x] => x
  | x :: y :: r => x ++ sep ++ joinT sep (y :: r)
theorem joinT_len (sep : List UInt8) : ∀ (ls : List (List UInt8)) (m : Nat), (∀ x ∈ ls, x.length ≤ m) → (joinT sep ls).length ≤ (m + sep.length) * ls.length
  | [], m, _ => by simp [joinT]
  | [x], m, h => by have := h x (List.mem_cons_self ..); simp [joinT]; omega
  | x :: y :: r, m, h => by
    have h1 := h x (List.mem_cons_self ..)
    have h2 := joinT_len sep (y :: r) m fun z hz => h z (List.mem_cons_of_mem _ hz)
    rw [joinT, List.length_append, List.length_append, List.length_cons, Nat.mul_succ]; omega
/-- What strings.Join must do. -/
def JoinOk : Prop := ∀ (w : World) (v : Value) (ls : List (List UInt8)) (sep : List UInt8), RdS w v ls → ls.length ≤ 1000 → sep.length ≤ 1000 → (∀ x ∈ ls, x.length ≤ 1000000) →
  Calls Tryd.prog 83 #[v, .string (mkS sep)] w fun e w' => e = .returned (.string (mkS (joinT sep ls))) ∧ Below w.heap.size w w'

def textF (t : Tab) : List UInt8 := [108, 97, 116, 116, 105, 99, 101, 32] ++ t.name ++ [32, 123, 32] ++ joinT [59, 32] ((List.range t.n).map (elT t)) ++ [32, 125]
theorem elT_len {t : Tab} (h : frmF t = true) (a : Nat) : (elT t a).length ≤ 181 := by
  have h1 := head_len h a
  have h2 := above_len h a
  have h3 := link_len h [58, 32] (t.above.getD a []) rfl
  unfold elT; rw [List.length_append]; omega
theorem infoStr : (Tryd.prog.info? 9).map (fun i => (i.zero, i.size, i.bytes)) = some (some (.string ⟨#[]⟩), 1, 16) := by kernel_rfl

set_option maxRecDepth 100000 in
set_option maxHeartbeats 2000000 in
theorem text_no (t : Tab) (ve va vw : Value) (w : World) (hT : TabIn w ve va vw t) (hS : Small t) (hL : LaidOk w) (hf : frmF t = false) :
    Calls Tryd.prog 37 #[tabV t ve va vw] w fun e w' => e = .returned (.tuple #[.string ⟨#[]⟩, .int .i64 4]) ∧ Below w.heap.size w w' := by
  obtain ⟨W2, hW2⟩ : ∃ W2, W2 = w.alloc (.cells #[.string (mkS t.name), ve, va, vw] 26) := ⟨_, rfl⟩
  have b2 : Below w.heap.size w W2 := by rw [hW2]; exact (Below.refl _ _).alloc (Nat.le_refl _) _
  have C := Lib.hid (formed_any t ve va vw W2 (hT.below b2) hS (hL.below b2))
  rw [hf] at C
  have HW2 := Lib.hid hW2; have HB2 := Lib.hid b2
  obtain ⟨pe, ce, rfl⟩ := hT.e.form
  obtain ⟨pa, ca, rfl⟩ := hT.a.form
  obtain ⟨pw, cw, rfl⟩ := hT.w.form
  clear hT hS hL hf hW2 b2
  unfold tabV at C ⊢
  go_enter Tryd.func37, Tryd.ntmps37
  go_wp2_with fail
  rw [← HW2.out]
  refine C.out.mono ?_
  rintro e w' ⟨rfl, hb⟩
  go_wp2
  go_ret2
  exact ⟨rfl, HB2.out.trans (hb.mono HB2.out.size)⟩

set_option maxRecDepth 100000 in
set_option maxHeartbeats 8000000 in
theorem text_yes (HJ : JoinOk) (t : Tab) (ve va vw : Value) (w : World) (hT : TabIn w ve va vw t) (hS : Small t) (hL : LaidOk w) (hf : frmF t = true) :
    Calls Tryd.prog 37 #[tabV t ve va vw] w fun e w' => e = .returned (.tuple #[.string (mkS (textF t)), .int .i64 0]) ∧ Below w.heap.size w w' := by
  obtain ⟨i0, hi, hz0, hz1, hz2⟩ := info_parts infoStr
  obtain ⟨W2, hW2⟩ : ∃ W2, W2 = w.alloc (.cells #[.string (mkS t.name), ve, va, vw] 26) := ⟨_, rfl⟩
  have b2 : Below w.heap.size w W2 := by rw [hW2]; exact (Below.refl _ _).alloc (Nat.le_refl _) _
  have c0 : W2.cell? ⟨w.heap.size, 0, none⟩ = some (.string (mkS t.name)) := by rw [hW2]; simp [go_sem]
  have c1 : W2.cell? ⟨w.heap.size, 1, none⟩ = some ve := by rw [hW2]; simp [go_sem]
  have c2 : W2.cell? ⟨w.heap.size, 2, none⟩ = some va := by rw [hW2]; simp [go_sem]
  have c3 : W2.cell? ⟨w.heap.size, 3, none⟩ = some vw := by rw [hW2]; simp [go_sem]
  have C := Lib.hid (formed_any t ve va vw W2 (hT.below b2) hS (hL.below b2))
  rw [hf] at C
  have CE : Hid (∀ W (k : Nat), Below w.heap.size w W → k < t.n → Calls Tryd.prog 82 #[tabV t ve va vw, .int .i64 k] W fun e w' => e = .returned (.string (mkS (elT t k))) ∧ Below W.heap.size W w') := fun W k h hk => elemText_any t ve va vw k W (hT.below h) hf hk
  obtain ⟨n1, n2, n3, n4⟩ := frm_len hf
  have hnl : t.name.length ≤ 12 := by
    have h := hf
    rw [frm_code] at h
    simp only [Bool.and_eq_true] at h
    have h2 := h.2.1.1.1
    unfold tnameF nameF at h2; simp at h2; exact h2.1.1.1.2
  obtain ⟨n, hn⟩ : ∃ n, n = t.n := ⟨_, rfl⟩
  have hne : t.elems.length = n := hn.symm
  have hjl : (joinT [59, 32] ((List.range t.n).map (elT t))).length ≤ 2196 := by
    have := joinT_len [59, 32] ((List.range t.n).map (elT t)) 181 (fun x hx => by
      rw [List.mem_map] at hx
      obtain ⟨a, _, rfl⟩ := hx
      exact elT_len hf a)
    rw [List.length_map, List.length_range] at this
    have : (181 + ([59, 32] : List UInt8).length) * t.n ≤ 183 * 12 := Nat.mul_le_mul (by simp) (by unfold Tab.n; omega)
    omega
  have CJ : Hid (∀ W v, RdS W v ((List.range n).map (elT t)) → Calls Tryd.prog 83 #[v, .string (mkS [59, 32])] W fun e w' => e = .returned (.string (mkS (joinT [59, 32] ((List.range n).map (elT t))))) ∧ Below W.heap.size W w') := fun W v h =>
    HJ W v _ [59, 32] h (by rw [List.length_map, List.length_range]; unfold Tab.n at hn; omega) (by simp) (fun x hx => by
      rw [List.mem_map] at hx
      obtain ⟨a, _, rfl⟩ := hx
      have := elT_len hf a; omega)
  have HTX : Hid (textF t = [108, 97, 116, 116, 105, 99, 101, 32] ++ t.name ++ [32, 123, 32] ++ joinT [59, 32] ((List.range n).map (elT t)) ++ [32, 125]) := by show _ = _; rw [hn]; rfl
  rw [← hn] at CE hjl
  obtain ⟨J, hJ⟩ : ∃ J, J = joinT [59, 32] ((List.range n).map (elT t)) := ⟨_, rfl⟩
  rw [← hJ] at CJ hjl HTX
  have n12 : n ≤ 12 := by unfold Tab.n at hn; omega
  have HW2 := Lib.hid hW2; have HB2 := Lib.hid b2
  obtain ⟨pe, ce, rfl⟩ := hT.e.form
  obtain ⟨pa, ca, rfl⟩ := hT.a.form
  obtain ⟨pw, cw, rfl⟩ := hT.w.form
  rw [hne] at *
  clear hT hS hL hf hW2 b2 hn hJ hne n1 n2 n3 n4
  unfold tabV at C CE ⊢
  go_enter Tryd.func37, Tryd.ntmps37
  go_wp2_with fail
  rw [← HW2.out]
  refine C.out.mono ?_
  rintro e w1 ⟨rfl, hb⟩
  have k0 := (hb.cell (cell_lt c0)).trans c0
  have k1 := (hb.cell (cell_lt c1)).trans c1
  have k2 := (hb.cell (cell_lt c2)).trans c2
  have k3 := (hb.cell (cell_lt c3)).trans c3
  have l0 : w.heap.size < w1.heap.size := cell_lt k0
  have HB1 := Lib.hid (HB2.out.trans (hb.mono HB2.out.size))
  clear hb c0 c1 c2 c3
  go_wp2
  go_loopw [4, 12] (fun v i wr => ∃ k : Nat, k ≤ n ∧ i = .int .i64 k ∧ wr.ownsRow w1.heap.size 9 1 v k (((List.range k).map (elT t)).map strV) ∧ Hid (Below w1.heap.size w1 wr)) (fun _ i _ => n - (intOf i).toNat)
  case atStart => exact ⟨0, Nat.zero_le _, rfl, World.ownsRow_nil _ _ _ _, Below.refl _ _⟩
  case round =>
    obtain ⟨k, hk, rfl, hrow, hbel⟩ := hrel
    have q0 := (hbel.out.cell (p := ⟨w.heap.size, 0, none⟩) l0).trans k0
    have q1 := (hbel.out.cell (p := ⟨w.heap.size, 1, none⟩) l0).trans k1
    have q2 := (hbel.out.cell (p := ⟨w.heap.size, 2, none⟩) l0).trans k2
    have q3 := (hbel.out.cell (p := ⟨w.heap.size, 3, none⟩) l0).trans k3
    obtain ⟨ptr, cap, rfl⟩ := ownsRow_slice hrow
    by_cases hlt : k < n
    · have CEk := Lib.hid (CE.out wr k (HB1.out.trans (hbel.out.mono HB1.out.size)) hlt)
      clear CE CJ HTX
      go_wp2_with fail
      refine CEk.out.mono ?_
      rintro e w2 ⟨rfl, hb2⟩
      have hrow2 := ownsRow_below hrow hb2
      have hbel2 : Below w1.heap.size w1 w2 := hbel.out.trans (hb2.mono hbel.out.size)
      have HLT := Lib.hid hrow2.lt
      have hs2 := hbel2.size
      clear hb2 hrow
      go_wp2_with (at_builtin; refine wpList_append_own _ rfl _ _ 22 rfl w1.heap.size 9 i0 (.string ⟨#[]⟩) 1 16 Tryd.underlying22 hi hz0 hz1 hz2 rfl (by decide) _ _ _ rfl (hrow2.alloc _) ⟨w2.heap.size, 0, none⟩ 1 1 [.string (mkS (elT t k))] rfl rfl ?c1 ?c2 (by unfold maxLen; omega) (by omega) (by simp; omega) ?_)
      case c1 => intro j u hj; match j, hj with | 0, hj => (simp at hj; subst hj; simp [Addr.add])
      case c2 => intro u hu; simp at hu; subst hu; rfl
      intro v' w' hown' hgrow _
      have hbel' : Below w1.heap.size w1 w' := Below.grown (hbel2.alloc hbel2.size _) hgrow (by simp; omega) (fun j hj => (HLT.out j hj).1)
      have hrowN : w'.ownsRow w1.heap.size 9 1 v' (k + 1) (((List.range (k + 1)).map (elT t)).map strV) := by
        rw [List.range_succ, List.map_append, List.map_append]
        simpa [strV] using hown'
      have HB4 := Lib.hid hbel'
      clear hown' hgrow hbel' hrow2 hbel hbel2
      go_wp2
      go_roundw
      case rel => exact ⟨k + 1, by omega, by go_num, hrowN, HB4⟩
      case measure => simp [intOf]; omega
    · have hkn : k = n := by omega
      subst hkn
      have hR : RdS wr (.slice ptr k cap) ((List.range k).map (elT t)) := by
        have := rd_own (vs := ((List.range k).map (elT t)).map strV) (base := w1.heap.size) (e := 9) (v := .slice ptr k cap) (w := wr) (by simpa using hrow) (by simp; omega)
        exact this
      have HR := Lib.hid hR
      have z1 : (mkS t.name).size ≤ 12 := by rw [mkS_size]; exact hnl
      have z2 : (mkS J).size ≤ 2196 := by rw [mkS_size]; exact hjl
      have lwr : w.heap.size < wr.heap.size := cell_lt q0
      have HFIN : Hid (∀ U, Below wr.heap.size wr U → Below w.heap.size w U) := fun U h => (HB1.out.trans (hbel.out.mono HB1.out.size)).trans (h.mono (by have := HB1.out.size; have := hbel.out.size; omega))
      clear hrow hR hbel CE
      go_wp2
      go_region_with (go_at_call 83; refine (CJ.out _ _ (HR.out.below (show Below wr.heap.size wr _ by repeat (first | exact Below.refl _ _ | refine Below.drew ?_)))).mono ?_; rintro e w' ⟨rfl, hbw⟩; have hbV : Below wr.heap.size wr w' := (show Below wr.heap.size wr _ by repeat (first | exact Below.refl _ _ | refine Below.drew ?_)).trans (hbw.mono (by simp)); have x0 := (hbV.cell (p := ⟨w.heap.size, 0, none⟩) lwr).trans q0)
      all_goals
        have hfin := HFIN.out _ hbV
        clear hbV hbw x0
        have HTE : Hid (⟨#[108, 97, 116, 116, 105, 99, 101, 32]⟩ ++ mkS t.name ++ ⟨#[32, 123, 32]⟩ ++ mkS J ++ ⟨#[32, 125]⟩ = mkS (textF t)) := by
          show _ = _
          rw [HTX.out, ← mkS_append, ← mkS_append, ← mkS_append, ← mkS_append]; rfl
        go_wp2
        go_ret2
        exact ⟨(show Ending.returned (.tuple #[.string (⟨#[108, 97, 116, 116, 105, 99, 101, 32]⟩ ++ mkS t.name ++ ⟨#[32, 123, 32]⟩ ++ mkS J ++ ⟨#[32, 125]⟩), .int .i64 0]) = _ from by rw [HTE.out]), by repeat (first | exact hfin | refine Below.drew ?_)⟩
end Go.Proofs.YtgbjelglifihnaaDoor.Or
