/- The contract of elemText. -/
import Derived.Test.YtgbjelglifihnaaDoorOrN
set_option linter.unusedVariables false
set_option linter.unusedSimpArgs false
namespace Go.Proofs.YtgbjelglifihnaaDoor.Or
open Go.RowKit

theorem mkS_append (a b : List UInt8) : mkS a ++ mkS b = mkS (a ++ b) := by
  apply ByteArray.ext; simp [mkS]
theorem ret_str {a b : ByteArray} (h : a = b) : Ending.returned (.string a) = .returned (.string b) := by rw [h]
theorem RdS.cells {w : World} {p : Option Addr} {n cap : Nat} {ls : List (List UInt8)} (h : RdS w (.slice p n cap) ls) (h0 : 0 < ls.length) : ∃ b off, p = some ⟨b, off, none⟩ ∧ ∀ i, i < ls.length → w.cell? ⟨b, off + i, none⟩ = some (.string (mkS (ls.getD i []))) := by
  obtain ⟨b, off, h1, h2⟩ := h.cell (i := 0) h0
  refine ⟨b, off, h1, fun i hi => ?_⟩
  obtain ⟨b', off', h1', h2'⟩ := h.cell hi
  rw [h1] at h1'; injection h1' with h1'; injection h1' with e1 e2 e3
  rw [e1, e2]; exact h2'

/-- What follows the name of an element in its text, by the list above it. -/
def linkT (t : Tab) : List UInt8 → List Int → List UInt8
  | _, [] => []
  | s, b :: r => s ++ t.elems.getD b.toNat [] ++ linkT t [44, 32] r
theorem link_snoc (t : Tab) : ∀ (s : List UInt8) (l : List Int) (b : Int), linkT t s (l ++ [b]) = linkT t s l ++ ((if l.length = 0 then s else [44, 32]) ++ t.elems.getD b.toNat [])
  | s, [], b => by simp [linkT]
  | s, c :: r, b => by
    rw [List.cons_append, linkT, link_snoc t [44, 32] r b, linkT]
    simp
/-- The text of an element. -/
def headT (t : Tab) (a : Nat) : List UInt8 := t.elems.getD a [] ++ (if t.wr a then [33] else [])
def elT (t : Tab) (a : Nat) : List UInt8 := headT t a ++ linkT t [58, 32] (t.above.getD a [])
theorem asc_len {n : Int} : ∀ {l : List Int} {last : Int}, ascF n last l = true → last < n → (l.length : Int) ≤ n - 1 - last
  | [], last, _, h => by simp; omega
  | x :: r, last, h, hl => by
    simp only [ascF, Bool.and_eq_true, decide_eq_true_eq] at h
    have := asc_len h.2 h.1.2
    simp; omega
theorem frm_name12 {t : Tab} (h : frmF t = true) (i : Nat) : (t.elems.getD i []).length ≤ 12 := by
  by_cases hi : i < t.elems.length
  · rw [frm_code] at h
    simp only [Bool.and_eq_true] at h
    have := h.2.1.1.2
    rw [List.all_eq_true] at this
    have h2 := this (t.elems.getD i []) (by simp [List.getD_eq_getElem?_getD, hi])
    unfold nameF at h2; simp at h2; exact h2.1.1.2
  · rw [List.getD_eq_getElem?_getD, List.getElem?_eq_none (by omega)]; simp
theorem link_len {t : Tab} (h : frmF t = true) : ∀ (s : List UInt8) (l : List Int), s.length = 2 → (linkT t s l).length ≤ 14 * l.length
  | s, [], _ => by simp [linkT]
  | s, b :: r, hs => by
    have := link_len h [44, 32] r rfl
    have h2 := frm_name12 h b.toNat
    simp only [linkT, List.length_append, List.length_cons]; omega
theorem head_len {t : Tab} (h : frmF t = true) (a : Nat) : (headT t a).length ≤ 13 := by
  have := frm_name12 h a
  have h2 : (if t.wr a then [33] else ([] : List UInt8)).length ≤ 1 := by split <;> simp
  unfold headT; rw [List.length_append]; omega
theorem above_len {t : Tab} (h : frmF t = true) (a : Nat) : (t.above.getD a []).length ≤ 12 := by
  obtain ⟨h1, h2, h3, h4⟩ := frm_len h
  by_cases ha : a < t.above.length
  · have := asc_len (frm_asc h ha) (by omega); omega
  · rw [List.getD_eq_getElem?_getD, List.getElem?_eq_none (by omega)]; simp

set_option maxRecDepth 100000 in
set_option maxHeartbeats 4000000 in
theorem elemText_any (t : Tab) (ve va vw : Value) (a : Nat) (w : World) (hT : TabIn w ve va vw t) (hf : frmF t = true) (ha : a < t.n) :
    Calls Tryd.prog 82 #[tabV t ve va vw, .int .i64 a] w fun e w' => e = .returned (.string (mkS (elT t a))) ∧ Below w.heap.size w w' := by
  obtain ⟨h1, h2, h3, h4⟩ := frm_len hf
  obtain ⟨pe, ce, rfl⟩ := hT.e.form
  obtain ⟨pa, ca, rfl⟩ := hT.a.form
  obtain ⟨pw, cw, rfl⟩ := hT.w.form
  have han : a < t.elems.length := ha
  obtain ⟨be, oe, rfl, hce⟩ := hT.e.cells (by omega)
  obtain ⟨ba, oa, qa, cq, rfl, hca, hrow⟩ := hT.a.cell (i := a) (by omega)
  obtain ⟨bw, ow, rfl, hcw⟩ := hT.w.cell (i := a) (by omega)
  have hla := above_len hf a
  have hlh := head_len hf a
  have hcea := hce a han
  have lbe : be < w.heap.size := cell_lt hcea
  have lba : ba < w.heap.size := cell_lt hca
  have lbw : bw < w.heap.size := cell_lt hcw
  have hasc := frm_asc hf (a := a) (by omega)
  have HELT : Hid (elT t a = headT t a ++ linkT t [58, 32] (t.above.getD a [])) := rfl
  obtain ⟨L, hL⟩ : ∃ L, L = t.above.getD a [] := ⟨_, rfl⟩
  rw [← hL] at hca hrow hla hasc HELT
  obtain ⟨n, hn⟩ : ∃ n, n = t.elems.length := ⟨_, rfl⟩
  have hrn : ∀ k, k < L.length → ∃ x : Nat, L.getD k 0 = x ∧ x < n := fun k hk => by
    have hm : L.getD k 0 ∈ L := by simp [List.getD_eq_getElem?_getD, hk]
    have := asc_mem hasc hm
    exact ⟨(L.getD k 0).toNat, by omega, by omega⟩
  have HRN := Lib.hid hrn; have HCE := Lib.hid hce; have HROW := Lib.hid hrow
  have HL14 : Hid (∀ k, (linkT t [58, 32] (L.take k)).length ≤ 14 * 12) := fun k => by
    have := link_len hf [58, 32] (L.take k) rfl
    have h5 : (L.take k).length ≤ L.length := by rw [List.length_take]; omega
    omega
  have HN12 : Hid (∀ i, (t.elems.getD i []).length ≤ 12) := frm_name12 hf
  have HWR : Hid (t.wr a = t.wrong.getD a false) := rfl
  obtain ⟨m, hm⟩ : ∃ m, m = L.length := ⟨_, rfl⟩
  rw [← hm] at hca HROW hla
  have HM := Lib.hid hm
  obtain ⟨nm, hnm⟩ : ∃ x, x = t.elems.getD a [] := ⟨_, rfl⟩
  have hnml : (mkS nm).size ≤ 12 := by rw [mkS_size, hnm]; exact frm_name12 hf a
  have HNM := Lib.hid hnm
  rw [← hnm] at hcea
  have e3 : t.above.length = n := by omega
  have e4 : t.wrong.length = n := by omega
  unfold tabV
  rw [e3, e4, ← hn]
  have han' : a < n := by omega
  have HN := Lib.hid hn
  clear hT hf hce hrow hasc hrn hL hm hn hnm h1 h2 h3 h4 han ha e3 e4
  have tail : ∀ (W : World) (os : List UInt8), True := fun _ _ => trivial
  cases hq : t.wr a with
  | true =>
    rw [← HWR.out, hq] at hcw
    have HH : Hid (headT t a = nm ++ [33]) := by show _ = _; unfold headT; rw [hq, ← HNM.out]; rfl
    have hfst : Hid (mkS nm ++ ⟨#[33]⟩ = mkS (headT t a)) := by show _ = _; rw [HH.out, ← mkS_append]; rfl
    clear hq tail
    go_enter Tryd.func82, Tryd.ntmps82
    go_wp2
    rw [hfst.out]
    go_loop [5, 6, 27] (fun o s i => ∃ (k : Nat) (os : List UInt8), k ≤ m ∧ i = .int .i64 k ∧ o = .string (mkS os) ∧ s = .string (mkS (if k = 0 then [58, 32] else [44, 32])) ∧ Hid (os = headT t a ++ linkT t [58, 32] (L.take k))) (fun _ _ i => m - (intOf i).toNat)
    case atStart => exact ⟨0, headT t a, Nat.zero_le _, rfl, rfl, rfl, by show _ = _; simp [linkT]⟩
    case round =>
      obtain ⟨k, os, hk, rfl, rfl, rfl, ho⟩ := hrel
      obtain ⟨sp, hsp⟩ : ∃ sp : List UInt8, sp = if k = 0 then [58, 32] else [44, 32] := ⟨_, rfl⟩
      rw [← hsp]
      by_cases hlt : k < m
      · have hkl : k < L.length := by have := HM.out; omega
        obtain ⟨bq, oq, rfl, hcq⟩ := HROW.out.cell (i := k) hkl
        obtain ⟨x, hx, hxn⟩ := HRN.out k hkl
        rw [hx] at hcq
        have hcx := HCE.out x (by have := HN.out; omega)
        have lbq : bq < w.heap.size := cell_lt hcq
        obtain ⟨y, hy⟩ : ∃ y, y = t.elems.getD x [] := ⟨_, rfl⟩
        rw [← hy] at hcx
        have s1 : (mkS sp).size = 2 := by rw [mkS_size, hsp]; split <;> rfl
        have s2 : (mkS y).size ≤ 12 := by rw [mkS_size, hy]; exact HN12.out x
        have s3 : (mkS os).size ≤ 181 := by rw [mkS_size, ho.out, List.length_append]; have := HL14.out k; omega
        have s4 : (mkS sp).size + (mkS y).size ≤ 281474976710656 := by omega
        have s5 : (mkS os).size + ((mkS sp).size + (mkS y).size) ≤ 281474976710656 := by omega
        have s6 : (mkS os).size + (mkS sp ++ mkS y).size ≤ 281474976710656 := by rw [ByteArray.size_append]; omega
        have HO : Hid (os ++ (sp ++ y) = headT t a ++ linkT t [58, 32] (L.take (k + 1))) := by
          show _ = _
          have e : L[k] = (x : Int) := by rw [← hx]; simp [List.getD_eq_getElem?_getD, hkl]
          have e2 : (L.take k).length = k := by rw [List.length_take]; omega
          rw [List.take_succ_eq_append_getElem hkl, link_snoc, ho.out, hsp, hy, e, e2, List.append_assoc]; rfl
        clear ho hsp hy hx hkl s1 s2 s3
        go_wp2
        go_round
        case rel => exact ⟨k + 1, os ++ (sp ++ y), by omega, by go_num, by rw [mkS_append, mkS_append], by rw [if_neg (by omega)]; rfl, HO⟩
        case measure => simp [intOf]; omega
      · have HF : Hid (os = elT t a) := by
          show _ = _
          rw [HELT.out, ho.out, List.take_of_length_le (by have := HM.out; omega)]
        clear ho hsp
        go_wp2
        go_ret
        exact ⟨ret_str (by rw [HF.out]), (Below.refl _ _).alloc (Nat.le_refl _) _⟩
  | false =>
    rw [← HWR.out, hq] at hcw
    have HH : Hid (headT t a = nm) := by show _ = _; unfold headT; rw [hq, ← HNM.out]; simp
    clear hq tail
    go_enter Tryd.func82, Tryd.ntmps82
    go_wp2
    rw [← HH.out]
    go_loop [5, 6, 27] (fun o s i => ∃ (k : Nat) (os : List UInt8), k ≤ m ∧ i = .int .i64 k ∧ o = .string (mkS os) ∧ s = .string (mkS (if k = 0 then [58, 32] else [44, 32])) ∧ Hid (os = headT t a ++ linkT t [58, 32] (L.take k))) (fun _ _ i => m - (intOf i).toNat)
    case atStart => exact ⟨0, headT t a, Nat.zero_le _, rfl, rfl, rfl, by show _ = _; simp [linkT]⟩
    case round =>
      obtain ⟨k, os, hk, rfl, rfl, rfl, ho⟩ := hrel
      obtain ⟨sp, hsp⟩ : ∃ sp : List UInt8, sp = if k = 0 then [58, 32] else [44, 32] := ⟨_, rfl⟩
      rw [← hsp]
      by_cases hlt : k < m
      · have hkl : k < L.length := by have := HM.out; omega
        obtain ⟨bq, oq, rfl, hcq⟩ := HROW.out.cell (i := k) hkl
        obtain ⟨x, hx, hxn⟩ := HRN.out k hkl
        rw [hx] at hcq
        have hcx := HCE.out x (by have := HN.out; omega)
        have lbq : bq < w.heap.size := cell_lt hcq
        obtain ⟨y, hy⟩ : ∃ y, y = t.elems.getD x [] := ⟨_, rfl⟩
        rw [← hy] at hcx
        have s1 : (mkS sp).size = 2 := by rw [mkS_size, hsp]; split <;> rfl
        have s2 : (mkS y).size ≤ 12 := by rw [mkS_size, hy]; exact HN12.out x
        have s3 : (mkS os).size ≤ 181 := by rw [mkS_size, ho.out, List.length_append]; have := HL14.out k; omega
        have s4 : (mkS sp).size + (mkS y).size ≤ 281474976710656 := by omega
        have s5 : (mkS os).size + ((mkS sp).size + (mkS y).size) ≤ 281474976710656 := by omega
        have s6 : (mkS os).size + (mkS sp ++ mkS y).size ≤ 281474976710656 := by rw [ByteArray.size_append]; omega
        have HO : Hid (os ++ (sp ++ y) = headT t a ++ linkT t [58, 32] (L.take (k + 1))) := by
          show _ = _
          have e : L[k] = (x : Int) := by rw [← hx]; simp [List.getD_eq_getElem?_getD, hkl]
          have e2 : (L.take k).length = k := by rw [List.length_take]; omega
          rw [List.take_succ_eq_append_getElem hkl, link_snoc, ho.out, hsp, hy, e, e2, List.append_assoc]; rfl
        clear ho hsp hy hx hkl s1 s2 s3
        go_wp2
        go_round
        case rel => exact ⟨k + 1, os ++ (sp ++ y), by omega, by go_num, by rw [mkS_append, mkS_append], by rw [if_neg (by omega)]; rfl, HO⟩
        case measure => simp [intOf]; omega
      · have HF : Hid (os = elT t a) := by
          show _ = _
          rw [HELT.out, ho.out, List.take_of_length_le (by have := HM.out; omega)]
        clear ho hsp
        go_wp2
        go_ret
        exact ⟨ret_str (by rw [HF.out]), (Below.refl _ _).alloc (Nat.le_refl _) _⟩
end Go.Proofs.YtgbjelglifihnaaDoor.Or
