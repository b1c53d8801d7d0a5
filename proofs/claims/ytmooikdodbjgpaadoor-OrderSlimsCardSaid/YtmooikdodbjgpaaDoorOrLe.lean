/- The reference's Text. -/
import Derived.Test.YtmooikdodbjgpaaDoorOrCa
import Derived.Test.YtmooikdodbjgpaaDoorOrBv
import Derived.BigQuiet
set_option linter.unusedVariables false
set_option linter.unusedSimpArgs false
namespace Go.Proofs.YtmooikdodbjgpaaDoor.Or
open Go.RowKit Go.Shelf

theorem getD_mem {l : List Int} {k : Nat} (hk : k < l.length) : l.getD k 0 ∈ l := by
  rw [List.getD_eq_getElem?_getD, List.getElem?_eq_getElem hk]; exact List.getElem_mem hk
theorem getElem_of_getD {l : List Int} {k : Nat} (hk : k < l.length) {x : Int} (h : l.getD k 0 = x) : l[k] = x := by
  rw [← h]; simp [List.getD_eq_getElem?_getD, hk]
theorem joinT_snoc (sep : List UInt8) : ∀ (ls : List (List UInt8)) (x : List UInt8), joinT sep (ls ++ [x]) = joinT sep ls ++ (if ls.length = 0 then [] else sep) ++ x
  | [], x => by simp [joinT]
  | [y], x => by simp [joinT]
  | y :: z :: r, x => by
    have := joinT_snoc sep (z :: r) x
    simp only [List.cons_append, joinT, List.length_cons] at this ⊢
    rw [this]
    simp
/-- The text of a table, as far as so many elements. -/
def preT (t : Tab) (i : Nat) : List UInt8 := [108, 97, 116, 116, 105, 99, 101, 32] ++ t.name ++ [32, 123, 32] ++ joinT [59, 32] ((List.range i).map (elT t))
theorem preT_succ (t : Tab) (i : Nat) : preT t (i + 1) = preT t i ++ (if i = 0 then [] else [59, 32]) ++ elT t i := by
  unfold preT
  rw [List.range_succ, List.map_append, List.map_cons, List.map_nil, joinT_snoc, List.length_map, List.length_range]
  simp
def refTextF (t : Tab) : List UInt8 := if frmF t then textF t else []
theorem lit_app1 (P : List UInt8) (a : UInt8) : mkS P ++ ⟨#[a]⟩ = mkS (P ++ [a]) := mkS_append P [a]
theorem lit_app2 (P : List UInt8) (a b : UInt8) : mkS P ++ ⟨#[a, b]⟩ = mkS (P ++ [a, b]) := mkS_append P [a, b]
theorem lit_app3 (P : List UInt8) (a b c : UInt8) : mkS P ++ ⟨#[a, b, c]⟩ = mkS (P ++ [a, b, c]) := mkS_append P [a, b, c]

set_option maxRecDepth 100000 in
set_option maxHeartbeats 8000000 in
theorem refText_any (t : Tab) (ve va vw : Value) (w : World) (hT : TabIn w ve va vw t) (hS : Small t) :
    Calls Tryd.prog 39 #[tabV t ve va vw] w fun e w' => e = .returned (.tuple #[.string (mkS (refTextF t)), .int .i64 (chkE t : Nat)]) ∧ Below w.heap.size w w' := by
  obtain ⟨W2, hW2⟩ : ∃ W2, W2 = w.alloc (.cells #[.string (mkS t.name), ve, va, vw] 26) := ⟨_, rfl⟩
  have b2 : Below w.heap.size w W2 := by rw [hW2]; exact (Below.refl _ _).alloc (Nat.le_refl _) _
  have C := Lib.hid (refCheck_any t ve va vw W2 (hT.below b2) hS)
  have k0 : W2.cell? ⟨w.heap.size, 0, none⟩ = some (.string (mkS t.name)) := by rw [hW2]; simp [go_sem]
  have k1 : W2.cell? ⟨w.heap.size, 1, none⟩ = some ve := by rw [hW2]; simp [go_sem]
  have k2 : W2.cell? ⟨w.heap.size, 2, none⟩ = some va := by rw [hW2]; simp [go_sem]
  have k3 : W2.cell? ⟨w.heap.size, 3, none⟩ = some vw := by rw [hW2]; simp [go_sem]
  have HT := Lib.hid (hT.below b2)
  have HW2 := Lib.hid hW2; have HB2 := Lib.hid b2
  obtain ⟨pe, ce, rfl⟩ := hT.e.form
  obtain ⟨pa, ca, rfl⟩ := hT.a.form
  obtain ⟨pw, cw, rfl⟩ := hT.w.form
  cases hf : frmF t with
  | false =>
    have hE : chkE t = 4 := by unfold chkE; rw [hf]; rfl
    have hX : refTextF t = [] := by unfold refTextF; rw [hf]; rfl
    rw [hE] at C
    rw [hE, hX]
    clear hT hS hf hW2 b2 k0 k1 k2 k3 hE hX
    unfold tabV at C ⊢
    go_enter Tryd.func39, Tryd.ntmps39
    go_wp2_with fail
    rw [← HW2.out]
    refine C.out.mono ?_
    rintro e w' ⟨rfl, hb⟩
    go_wp2
    go_ret2
    exact ⟨rfl, HB2.out.trans (hb.mono HB2.out.size)⟩
  | true =>
    have hE : chkE t = 0 := by unfold chkE; rw [hf]; rfl
    have hX : refTextF t = textF t := by unfold refTextF; rw [hf]; rfl
    obtain ⟨n1, n2, n3, n4⟩ := frm_len hf
    have hnl : t.name.length ≤ 12 := by
      have h := hf
      rw [frm_code] at h
      simp only [Bool.and_eq_true] at h
      have h2 := h.2.1.1.1
      unfold tnameF nameF at h2; simp at h2; exact h2.1.1.1.2
    obtain ⟨n, hn⟩ : ∃ n, n = t.n := ⟨_, rfl⟩
    have hne : t.elems.length = n := hn.symm
    have n12 : n ≤ 12 := by omega
    have PL : Hid (∀ i, i ≤ n → (preT t i).length ≤ 2300) := fun i hi => by
      have := joinT_len [59, 32] ((List.range i).map (elT t)) 181 (fun x hx => by
        rw [List.mem_map] at hx
        obtain ⟨a, _, rfl⟩ := hx
        exact elT_len hf a)
      rw [List.length_map, List.length_range] at this
      have h2 : (181 + ([59, 32] : List UInt8).length) * i ≤ 183 * 12 := Nat.mul_le_mul (by simp) (by omega)
      unfold preT
      simp only [List.length_append, List.length_cons, List.length_nil]
      omega
    have HF := Lib.hid hf
    have HTX : Hid (textF t = preT t n ++ [32, 125]) := by show _ = _; rw [hn]; rfl
    have HL : Hid (∀ (i k : Nat), (linkT t [58, 32] ((t.above.getD i []).take k)).length ≤ 14 * 12) := fun i k => by
      have h1 := link_len hf [58, 32] ((t.above.getD i []).take k) rfl
      have h5 : ((t.above.getD i []).take k).length ≤ (t.above.getD i []).length := by rw [List.length_take]; omega
      have h6 := above_len hf i
      omega
    have HH : Hid (∀ i, (headT t i).length ≤ 13) := fun i => head_len hf i
    have HNM12 : Hid (∀ i, (t.elems.getD i []).length ≤ 12) := frm_name12 hf
    have HEX : Hid (∀ i k, i < n → k < (t.above.getD i []).length → ∃ x : Nat, (t.above.getD i []).getD k 0 = x ∧ x < n) := fun i k hi hk => by
      have hasc := frm_asc hf (a := i) (by omega)
      have hm : (t.above.getD i []).getD k 0 ∈ t.above.getD i [] := getD_mem hk
      have := asc_mem hasc hm
      exact ⟨((t.above.getD i []).getD k 0).toNat, by omega, by omega⟩
    have e3 : t.above.length = n := by omega
    have e4 : t.wrong.length = n := by omega
    rw [hE] at C
    rw [hE, hX]
    have HE3 := Lib.hid e3; have HE4 := Lib.hid e4; have HNE := Lib.hid hne
    have KS : Hid (∀ V, Below W2.heap.size W2 V → V.cell? ⟨w.heap.size, 1, none⟩ = some (.slice pe n ce) ∧ V.cell? ⟨w.heap.size, 2, none⟩ = some (.slice pa n ca) ∧ V.cell? ⟨w.heap.size, 3, none⟩ = some (.slice pw n cw)) := fun V h => by
      rw [hne] at k1; rw [e3] at k2; rw [e4] at k3
      exact ⟨(h.cell (cell_lt k1)).trans k1, (h.cell (cell_lt k2)).trans k2, (h.cell (cell_lt k3)).trans k3⟩
    have hnm2 : (mkS t.name).size ≤ 12 := by rw [mkS_size]; exact hnl
    have HWR : Hid (∀ i, t.wr i = t.wrong.getD i false) := fun _ => rfl
    unfold tabV at C ⊢
    rw [hne, e3, e4] at C HW2 ⊢
    have HP0 : Hid ((⟨#[108, 97, 116, 116, 105, 99, 101, 32]⟩ : ByteArray) ++ mkS t.name ++ ⟨#[32, 123, 32]⟩ = mkS (preT t 0)) := by
      show _ = _
      have : preT t 0 = [108, 97, 116, 116, 105, 99, 101, 32] ++ t.name ++ [32, 123, 32] := by simp [preT, joinT]
      rw [this, ← mkS_append, ← mkS_append]; rfl
    have s0 : (8 : Nat) + (mkS t.name).size ≤ 281474976710656 := by omega
    have s1 : ((⟨#[108, 97, 116, 116, 105, 99, 101, 32]⟩ : ByteArray) ++ mkS t.name).size + 3 ≤ 281474976710656 := by rw [ByteArray.size_append]; show 8 + (mkS t.name).size + 3 ≤ _; omega
    clear hT hS hf hW2 b2 k1 k2 k3 hE hX hn hne e3 e4 n1 n2 n3 n4 hnl
    go_enter Tryd.func39, Tryd.ntmps39
    go_wp2_with fail
    rw [← HW2.out]
    refine C.out.mono ?_
    rintro e w1 ⟨rfl, hb⟩
    have HD1 : Hid (Below W2.heap.size W2 w1) := hb
    have k01 := (hb.cell (cell_lt k0)).trans k0
    clear hb C k0
    obtain ⟨k1, _, _⟩ := KS.out _ HD1.out
    go_wp2_with fail
    go_loopw [5, 6] (fun o i wx => ∃ (i' : Nat) (P : List UInt8), i' ≤ n ∧ i = .int .i64 i' ∧ o = .string (mkS P) ∧ Hid (P = preT t i') ∧ Hid (Below W2.heap.size W2 wx)) (fun _ i _ => n - (intOf i).toNat)
    case atStart => exact ⟨0, preT t 0, Nat.zero_le _, rfl, by rw [HP0.out], rfl, HD1.out⟩
    case round =>
      clear k01 k1 hnm2 s0 s1
      obtain ⟨i, P, hi, rfl, rfl, hP, hb⟩ := hrel
      obtain ⟨k1, k2, k3⟩ := KS.out _ hb.out
      have sP : (mkS P).size ≤ 2300 := by rw [mkS_size, hP.out]; exact PL.out i hi
      by_cases hlt : i < n
      · have hie : i < t.elems.length := by have := HNE.out; omega
        have hT2 := HT.out
        rw [HNE.out, HE3.out, HE4.out] at hT2
        have hce := hT2.e.cells (by omega)
        obtain ⟨be, oe, rfl, hce⟩ := hce
        obtain ⟨ba, oa, qa, cq, rfl, hca, hrow⟩ := hT2.a.cell (i := i) (by have := HE3.out; omega)
        obtain ⟨bw, ow, rfl, hcw⟩ := hT2.w.cell (i := i) (by have := HE4.out; omega)
        obtain ⟨m, hm⟩ : ∃ m, m = (t.above.getD i []).length := ⟨_, rfl⟩
        rw [← hm] at hca hrow
        have HM := Lib.hid hm
        have HROW := Lib.hid hrow; have HCE := Lib.hid hce
        have hcei := (hb.out.cell (cell_lt (hce i hie))).trans (hce i hie)
        have hcwi := (hb.out.cell (cell_lt hcw)).trans hcw
        rw [← HWR.out i] at hcwi
        have HCA := Lib.hid hca
        have hm12 : m ≤ 12 := by rw [hm]; exact above_len HF.out i
        obtain ⟨nm, hnm⟩ : ∃ x, x = t.elems.getD i [] := ⟨_, rfl⟩
        rw [← hnm] at hcei
        have hnml : (mkS nm).size ≤ 12 := by rw [mkS_size, hnm]; exact HNM12.out i
        have HNM := Lib.hid hnm
        have HB : Hid (∀ os, os = P ++ (if i = 0 then [] else [59, 32]) ++ headT t i ++ linkT t [58, 32] (t.above.getD i []) → os = preT t (i + 1)) := fun os h => by
          rw [h, preT_succ, hP.out]; unfold elT; simp only [List.append_assoc]
        have u1 : (mkS P).size + 2 ≤ 281474976710656 := by omega
        have u2 : (mkS P).size + (mkS nm).size ≤ 281474976710656 := by omega
        have u3 : (mkS P ++ ⟨#[59, 32]⟩).size + (mkS nm).size ≤ 281474976710656 := by rw [ByteArray.size_append]; show (mkS P).size + 2 + _ ≤ _; omega
        have u4 : (mkS P ++ mkS nm).size + 1 ≤ 281474976710656 := by rw [ByteArray.size_append]; omega
        have u5 : (mkS P ++ ⟨#[59, 32]⟩ ++ mkS nm).size + 1 ≤ 281474976710656 := by rw [ByteArray.size_append, ByteArray.size_append]; show (mkS P).size + 2 + _ + 1 ≤ _; omega
        have HBB : Hid (∃ B : List UInt8, B = P ++ (if i = 0 then [] else [59, 32]) ++ headT t i) := ⟨_, rfl⟩
        obtain ⟨B, hB⟩ := HBB.out
        have hBl : B.length ≤ 2330 := by
          have h1 := HH.out i
          have h2 : P.length ≤ 2300 := by rw [hP.out]; exact PL.out i hi
          rw [hB]; simp only [List.length_append]
          split <;> simp <;> omega
        have HBE := Lib.hid hB
        clear hm hnm hca hrow hce hcw hT2 hB hie hP
        rcases Nat.eq_zero_or_pos i with h0 | h0
        · cases hq : t.wr i with
          | false =>
            have hB2 : Hid (B = P ++ (if i = 0 then [] else [59, 32]) ++ (nm ++ (if t.wr i then [33] else []))) := by show _ = _; rw [HBE.out, HNM.out]; rfl
            rw [hq] at hcwi hB2
            rw [if_pos h0] at hB2
            have hg1 : decide ((0 : Int) < (i : Int)) = false := decide_eq_false (by omega)
            have hg2 : decide (0 < i) = false := decide_eq_false (by omega)
            clear h0
            go_wp2_with fail
            go_loopw [5, 7] (fun o k wx => ∃ (k' : Nat) (os : List UInt8), k' ≤ m ∧ k = .int .i64 k' ∧ o = .string (mkS os) ∧ Hid (os = B ++ linkT t [58, 32] ((t.above.getD i []).take k')) ∧ Hid (Below W2.heap.size W2 wx)) (fun _ k _ => m - (intOf k).toNat)
            case atStart =>
              refine ⟨0, B, Nat.zero_le _, rfl, ?_, by show _ = _; simp [linkT], hb⟩
              rw [hB2.out]
              first
                | (show Value.string (mkS P ++ mkS nm) = _; rw [mkS_append]; simp; done)
                | (show Value.string (mkS P ++ mkS nm ++ mkS [33]) = _; rw [mkS_append, mkS_append]; simp; done)
                | (show Value.string (mkS P ++ mkS [59, 32] ++ mkS nm) = _; rw [mkS_append, mkS_append]; simp; done)
                | (show Value.string (mkS P ++ mkS [59, 32] ++ mkS nm ++ mkS [33]) = _; rw [mkS_append, mkS_append, mkS_append]; simp; done)
            case round =>
              clear k1 k2 k3 hcei hcwi hb
              obtain ⟨k, os, hk, rfl, rfl, ho, hb⟩ := hrel
              obtain ⟨k1, k2, k3⟩ := KS.out _ hb.out
              have hca := (hb.out.cell (cell_lt HCA.out)).trans HCA.out
              by_cases hltk : k < m
              · have hkl : k < (t.above.getD i []).length := by have := HM.out; omega
                obtain ⟨bq, oq, rfl, hcq0⟩ := HROW.out.cell (i := k) hkl
                obtain ⟨x, hx, hxn⟩ := HEX.out i k hlt hkl
                rw [hx] at hcq0
                have hcq := (hb.out.cell (cell_lt hcq0)).trans hcq0
                have hcx0 := HCE.out x (by have := HNE.out; omega)
                have hcx := (hb.out.cell (cell_lt hcx0)).trans hcx0
                obtain ⟨y, hy⟩ : ∃ y, y = t.elems.getD x [] := ⟨_, rfl⟩
                rw [← hy] at hcx
                have v2 : (mkS y).size ≤ 12 := by rw [mkS_size, hy]; exact HNM12.out x
                have v3 : (mkS os).size ≤ 2500 := by rw [mkS_size, ho.out, List.length_append]; have := HL.out i k; omega
                have v4 : (mkS os).size + 2 ≤ 281474976710656 := by omega
                have v5 : (mkS os ++ ⟨#[58, 32]⟩).size + (mkS y).size ≤ 281474976710656 := by rw [ByteArray.size_append]; show (mkS os).size + 2 + _ ≤ _; omega
                have v6 : (mkS os ++ ⟨#[44, 32]⟩).size + (mkS y).size ≤ 281474976710656 := by rw [ByteArray.size_append]; show (mkS os).size + 2 + _ ≤ _; omega
                have v7 : (mkS os).size + 2 + (mkS y).size ≤ 281474976710656 := by omega
                have v8 : (mkS os).size + (⟨#[58, 32]⟩ : ByteArray).size + (mkS y).size ≤ 281474976710656 := by show (mkS os).size + 2 + _ ≤ _; omega
                have v9 : (mkS os).size + (⟨#[44, 32]⟩ : ByteArray).size + (mkS y).size ≤ 281474976710656 := by show (mkS os).size + 2 + _ ≤ _; omega
                have HO : Hid (os ++ (if k = 0 then [58, 32] else [44, 32]) ++ y = B ++ linkT t [58, 32] ((t.above.getD i []).take (k + 1))) := by
                  show _ = _
                  have e : (t.above.getD i [])[k] = (x : Int) := getElem_of_getD hkl hx
                  have e2 : ((t.above.getD i []).take k).length = k := by rw [List.length_take]; omega
                  rw [List.take_succ_eq_append_getElem hkl, link_snoc, ho.out, hy, e, e2]
                  simp only [List.append_assoc]; rfl
                clear ho hy hx hkl hcq0 hcx0 v3
                rcases Nat.eq_zero_or_pos k with hk0 | hk0
                · rw [if_pos hk0] at HO
                  have hg3 : ((k : Int) == 0) = true := by rw [beq_iff_eq]; omega
                  clear hk0
                  go_wp2
                  go_quiet (fail)
                  go_wp2
                  go_roundw
                  case rel => exact ⟨k + 1, _, by omega, by go_num, by first | (rw [lit_app2, mkS_append]) | rfl, HO, hb.out.trans (below_drewAt _ _ _)⟩
                  case measure => simp [intOf]; omega
                · rw [if_neg (by omega)] at HO
                  have hg3 : ((k : Int) == 0) = false := by rw [beq_eq_false_iff_ne]; omega
                  go_wp2
                  go_quiet (fail)
                  go_wp2
                  go_roundw
                  case rel => exact ⟨k + 1, _, by omega, by go_num, by first | (rw [lit_app2, mkS_append]) | rfl, HO, hb.out.trans (below_drewAt _ _ _)⟩
                  case measure => simp [intOf]; omega
              · have HF2 : Hid (os = preT t (i + 1)) := HB.out os (by rw [ho.out, List.take_of_length_le (by have := HM.out; omega), HBE.out])
                clear ho
                go_wp2
                go_roundw
                case rel => exact ⟨i + 1, os, by omega, by go_num, rfl, HF2, hb⟩
                case measure => simp [intOf]; omega
          | true =>
            have hB2 : Hid (B = P ++ (if i = 0 then [] else [59, 32]) ++ (nm ++ (if t.wr i then [33] else []))) := by show _ = _; rw [HBE.out, HNM.out]; rfl
            rw [hq] at hcwi hB2
            rw [if_pos h0] at hB2
            have hg1 : decide ((0 : Int) < (i : Int)) = false := decide_eq_false (by omega)
            have hg2 : decide (0 < i) = false := decide_eq_false (by omega)
            clear h0
            go_wp2_with fail
            go_loopw [5, 7] (fun o k wx => ∃ (k' : Nat) (os : List UInt8), k' ≤ m ∧ k = .int .i64 k' ∧ o = .string (mkS os) ∧ Hid (os = B ++ linkT t [58, 32] ((t.above.getD i []).take k')) ∧ Hid (Below W2.heap.size W2 wx)) (fun _ k _ => m - (intOf k).toNat)
            case atStart =>
              refine ⟨0, B, Nat.zero_le _, rfl, ?_, by show _ = _; simp [linkT], hb⟩
              rw [hB2.out]
              first
                | (show Value.string (mkS P ++ mkS nm) = _; rw [mkS_append]; simp; done)
                | (show Value.string (mkS P ++ mkS nm ++ mkS [33]) = _; rw [mkS_append, mkS_append]; simp; done)
                | (show Value.string (mkS P ++ mkS [59, 32] ++ mkS nm) = _; rw [mkS_append, mkS_append]; simp; done)
                | (show Value.string (mkS P ++ mkS [59, 32] ++ mkS nm ++ mkS [33]) = _; rw [mkS_append, mkS_append, mkS_append]; simp; done)
            case round =>
              clear k1 k2 k3 hcei hcwi hb
              obtain ⟨k, os, hk, rfl, rfl, ho, hb⟩ := hrel
              obtain ⟨k1, k2, k3⟩ := KS.out _ hb.out
              have hca := (hb.out.cell (cell_lt HCA.out)).trans HCA.out
              by_cases hltk : k < m
              · have hkl : k < (t.above.getD i []).length := by have := HM.out; omega
                obtain ⟨bq, oq, rfl, hcq0⟩ := HROW.out.cell (i := k) hkl
                obtain ⟨x, hx, hxn⟩ := HEX.out i k hlt hkl
                rw [hx] at hcq0
                have hcq := (hb.out.cell (cell_lt hcq0)).trans hcq0
                have hcx0 := HCE.out x (by have := HNE.out; omega)
                have hcx := (hb.out.cell (cell_lt hcx0)).trans hcx0
                obtain ⟨y, hy⟩ : ∃ y, y = t.elems.getD x [] := ⟨_, rfl⟩
                rw [← hy] at hcx
                have v2 : (mkS y).size ≤ 12 := by rw [mkS_size, hy]; exact HNM12.out x
                have v3 : (mkS os).size ≤ 2500 := by rw [mkS_size, ho.out, List.length_append]; have := HL.out i k; omega
                have v4 : (mkS os).size + 2 ≤ 281474976710656 := by omega
                have v5 : (mkS os ++ ⟨#[58, 32]⟩).size + (mkS y).size ≤ 281474976710656 := by rw [ByteArray.size_append]; show (mkS os).size + 2 + _ ≤ _; omega
                have v6 : (mkS os ++ ⟨#[44, 32]⟩).size + (mkS y).size ≤ 281474976710656 := by rw [ByteArray.size_append]; show (mkS os).size + 2 + _ ≤ _; omega
                have v7 : (mkS os).size + 2 + (mkS y).size ≤ 281474976710656 := by omega
                have v8 : (mkS os).size + (⟨#[58, 32]⟩ : ByteArray).size + (mkS y).size ≤ 281474976710656 := by show (mkS os).size + 2 + _ ≤ _; omega
                have v9 : (mkS os).size + (⟨#[44, 32]⟩ : ByteArray).size + (mkS y).size ≤ 281474976710656 := by show (mkS os).size + 2 + _ ≤ _; omega
                have HO : Hid (os ++ (if k = 0 then [58, 32] else [44, 32]) ++ y = B ++ linkT t [58, 32] ((t.above.getD i []).take (k + 1))) := by
                  show _ = _
                  have e : (t.above.getD i [])[k] = (x : Int) := getElem_of_getD hkl hx
                  have e2 : ((t.above.getD i []).take k).length = k := by rw [List.length_take]; omega
                  rw [List.take_succ_eq_append_getElem hkl, link_snoc, ho.out, hy, e, e2]
                  simp only [List.append_assoc]; rfl
                clear ho hy hx hkl hcq0 hcx0 v3
                rcases Nat.eq_zero_or_pos k with hk0 | hk0
                · rw [if_pos hk0] at HO
                  have hg3 : ((k : Int) == 0) = true := by rw [beq_iff_eq]; omega
                  clear hk0
                  go_wp2
                  go_quiet (fail)
                  go_wp2
                  go_roundw
                  case rel => exact ⟨k + 1, _, by omega, by go_num, by first | (rw [lit_app2, mkS_append]) | rfl, HO, hb.out.trans (below_drewAt _ _ _)⟩
                  case measure => simp [intOf]; omega
                · rw [if_neg (by omega)] at HO
                  have hg3 : ((k : Int) == 0) = false := by rw [beq_eq_false_iff_ne]; omega
                  go_wp2
                  go_quiet (fail)
                  go_wp2
                  go_roundw
                  case rel => exact ⟨k + 1, _, by omega, by go_num, by first | (rw [lit_app2, mkS_append]) | rfl, HO, hb.out.trans (below_drewAt _ _ _)⟩
                  case measure => simp [intOf]; omega
              · have HF2 : Hid (os = preT t (i + 1)) := HB.out os (by rw [ho.out, List.take_of_length_le (by have := HM.out; omega), HBE.out])
                clear ho
                go_wp2
                go_roundw
                case rel => exact ⟨i + 1, os, by omega, by go_num, rfl, HF2, hb⟩
                case measure => simp [intOf]; omega
        · cases hq : t.wr i with
          | false =>
            have hB2 : Hid (B = P ++ (if i = 0 then [] else [59, 32]) ++ (nm ++ (if t.wr i then [33] else []))) := by show _ = _; rw [HBE.out, HNM.out]; rfl
            rw [hq] at hcwi hB2
            rw [if_neg (by omega)] at hB2
            go_wp2_with fail
            go_loopw [5, 7] (fun o k wx => ∃ (k' : Nat) (os : List UInt8), k' ≤ m ∧ k = .int .i64 k' ∧ o = .string (mkS os) ∧ Hid (os = B ++ linkT t [58, 32] ((t.above.getD i []).take k')) ∧ Hid (Below W2.heap.size W2 wx)) (fun _ k _ => m - (intOf k).toNat)
            case atStart =>
              refine ⟨0, B, Nat.zero_le _, rfl, ?_, by show _ = _; simp [linkT], hb⟩
              rw [hB2.out]
              first
                | (show Value.string (mkS P ++ mkS nm) = _; rw [mkS_append]; simp; done)
                | (show Value.string (mkS P ++ mkS nm ++ mkS [33]) = _; rw [mkS_append, mkS_append]; simp; done)
                | (show Value.string (mkS P ++ mkS [59, 32] ++ mkS nm) = _; rw [mkS_append, mkS_append]; simp; done)
                | (show Value.string (mkS P ++ mkS [59, 32] ++ mkS nm ++ mkS [33]) = _; rw [mkS_append, mkS_append, mkS_append]; simp; done)
            case round =>
              clear k1 k2 k3 hcei hcwi hb
              obtain ⟨k, os, hk, rfl, rfl, ho, hb⟩ := hrel
              obtain ⟨k1, k2, k3⟩ := KS.out _ hb.out
              have hca := (hb.out.cell (cell_lt HCA.out)).trans HCA.out
              by_cases hltk : k < m
              · have hkl : k < (t.above.getD i []).length := by have := HM.out; omega
                obtain ⟨bq, oq, rfl, hcq0⟩ := HROW.out.cell (i := k) hkl
                obtain ⟨x, hx, hxn⟩ := HEX.out i k hlt hkl
                rw [hx] at hcq0
                have hcq := (hb.out.cell (cell_lt hcq0)).trans hcq0
                have hcx0 := HCE.out x (by have := HNE.out; omega)
                have hcx := (hb.out.cell (cell_lt hcx0)).trans hcx0
                obtain ⟨y, hy⟩ : ∃ y, y = t.elems.getD x [] := ⟨_, rfl⟩
                rw [← hy] at hcx
                have v2 : (mkS y).size ≤ 12 := by rw [mkS_size, hy]; exact HNM12.out x
                have v3 : (mkS os).size ≤ 2500 := by rw [mkS_size, ho.out, List.length_append]; have := HL.out i k; omega
                have v4 : (mkS os).size + 2 ≤ 281474976710656 := by omega
                have v5 : (mkS os ++ ⟨#[58, 32]⟩).size + (mkS y).size ≤ 281474976710656 := by rw [ByteArray.size_append]; show (mkS os).size + 2 + _ ≤ _; omega
                have v6 : (mkS os ++ ⟨#[44, 32]⟩).size + (mkS y).size ≤ 281474976710656 := by rw [ByteArray.size_append]; show (mkS os).size + 2 + _ ≤ _; omega
                have v7 : (mkS os).size + 2 + (mkS y).size ≤ 281474976710656 := by omega
                have v8 : (mkS os).size + (⟨#[58, 32]⟩ : ByteArray).size + (mkS y).size ≤ 281474976710656 := by show (mkS os).size + 2 + _ ≤ _; omega
                have v9 : (mkS os).size + (⟨#[44, 32]⟩ : ByteArray).size + (mkS y).size ≤ 281474976710656 := by show (mkS os).size + 2 + _ ≤ _; omega
                have HO : Hid (os ++ (if k = 0 then [58, 32] else [44, 32]) ++ y = B ++ linkT t [58, 32] ((t.above.getD i []).take (k + 1))) := by
                  show _ = _
                  have e : (t.above.getD i [])[k] = (x : Int) := getElem_of_getD hkl hx
                  have e2 : ((t.above.getD i []).take k).length = k := by rw [List.length_take]; omega
                  rw [List.take_succ_eq_append_getElem hkl, link_snoc, ho.out, hy, e, e2]
                  simp only [List.append_assoc]; rfl
                clear ho hy hx hkl hcq0 hcx0 v3
                rcases Nat.eq_zero_or_pos k with hk0 | hk0
                · rw [if_pos hk0] at HO
                  have hg3 : ((k : Int) == 0) = true := by rw [beq_iff_eq]; omega
                  clear hk0
                  go_wp2
                  go_quiet (fail)
                  go_wp2
                  go_roundw
                  case rel => exact ⟨k + 1, _, by omega, by go_num, by first | (rw [lit_app2, mkS_append]) | rfl, HO, hb.out.trans (below_drewAt _ _ _)⟩
                  case measure => simp [intOf]; omega
                · rw [if_neg (by omega)] at HO
                  have hg3 : ((k : Int) == 0) = false := by rw [beq_eq_false_iff_ne]; omega
                  go_wp2
                  go_quiet (fail)
                  go_wp2
                  go_roundw
                  case rel => exact ⟨k + 1, _, by omega, by go_num, by first | (rw [lit_app2, mkS_append]) | rfl, HO, hb.out.trans (below_drewAt _ _ _)⟩
                  case measure => simp [intOf]; omega
              · have HF2 : Hid (os = preT t (i + 1)) := HB.out os (by rw [ho.out, List.take_of_length_le (by have := HM.out; omega), HBE.out])
                clear ho
                go_wp2
                go_roundw
                case rel => exact ⟨i + 1, os, by omega, by go_num, rfl, HF2, hb⟩
                case measure => simp [intOf]; omega
          | true =>
            have hB2 : Hid (B = P ++ (if i = 0 then [] else [59, 32]) ++ (nm ++ (if t.wr i then [33] else []))) := by show _ = _; rw [HBE.out, HNM.out]; rfl
            rw [hq] at hcwi hB2
            rw [if_neg (by omega)] at hB2
            go_wp2_with fail
            go_loopw [5, 7] (fun o k wx => ∃ (k' : Nat) (os : List UInt8), k' ≤ m ∧ k = .int .i64 k' ∧ o = .string (mkS os) ∧ Hid (os = B ++ linkT t [58, 32] ((t.above.getD i []).take k')) ∧ Hid (Below W2.heap.size W2 wx)) (fun _ k _ => m - (intOf k).toNat)
            case atStart =>
              refine ⟨0, B, Nat.zero_le _, rfl, ?_, by show _ = _; simp [linkT], hb⟩
              rw [hB2.out]
              first
                | (show Value.string (mkS P ++ mkS nm) = _; rw [mkS_append]; simp; done)
                | (show Value.string (mkS P ++ mkS nm ++ mkS [33]) = _; rw [mkS_append, mkS_append]; simp; done)
                | (show Value.string (mkS P ++ mkS [59, 32] ++ mkS nm) = _; rw [mkS_append, mkS_append]; simp; done)
                | (show Value.string (mkS P ++ mkS [59, 32] ++ mkS nm ++ mkS [33]) = _; rw [mkS_append, mkS_append, mkS_append]; simp; done)
            case round =>
              clear k1 k2 k3 hcei hcwi hb
              obtain ⟨k, os, hk, rfl, rfl, ho, hb⟩ := hrel
              obtain ⟨k1, k2, k3⟩ := KS.out _ hb.out
              have hca := (hb.out.cell (cell_lt HCA.out)).trans HCA.out
              by_cases hltk : k < m
              · have hkl : k < (t.above.getD i []).length := by have := HM.out; omega
                obtain ⟨bq, oq, rfl, hcq0⟩ := HROW.out.cell (i := k) hkl
                obtain ⟨x, hx, hxn⟩ := HEX.out i k hlt hkl
                rw [hx] at hcq0
                have hcq := (hb.out.cell (cell_lt hcq0)).trans hcq0
                have hcx0 := HCE.out x (by have := HNE.out; omega)
                have hcx := (hb.out.cell (cell_lt hcx0)).trans hcx0
                obtain ⟨y, hy⟩ : ∃ y, y = t.elems.getD x [] := ⟨_, rfl⟩
                rw [← hy] at hcx
                have v2 : (mkS y).size ≤ 12 := by rw [mkS_size, hy]; exact HNM12.out x
                have v3 : (mkS os).size ≤ 2500 := by rw [mkS_size, ho.out, List.length_append]; have := HL.out i k; omega
                have v4 : (mkS os).size + 2 ≤ 281474976710656 := by omega
                have v5 : (mkS os ++ ⟨#[58, 32]⟩).size + (mkS y).size ≤ 281474976710656 := by rw [ByteArray.size_append]; show (mkS os).size + 2 + _ ≤ _; omega
                have v6 : (mkS os ++ ⟨#[44, 32]⟩).size + (mkS y).size ≤ 281474976710656 := by rw [ByteArray.size_append]; show (mkS os).size + 2 + _ ≤ _; omega
                have v7 : (mkS os).size + 2 + (mkS y).size ≤ 281474976710656 := by omega
                have v8 : (mkS os).size + (⟨#[58, 32]⟩ : ByteArray).size + (mkS y).size ≤ 281474976710656 := by show (mkS os).size + 2 + _ ≤ _; omega
                have v9 : (mkS os).size + (⟨#[44, 32]⟩ : ByteArray).size + (mkS y).size ≤ 281474976710656 := by show (mkS os).size + 2 + _ ≤ _; omega
                have HO : Hid (os ++ (if k = 0 then [58, 32] else [44, 32]) ++ y = B ++ linkT t [58, 32] ((t.above.getD i []).take (k + 1))) := by
                  show _ = _
                  have e : (t.above.getD i [])[k] = (x : Int) := getElem_of_getD hkl hx
                  have e2 : ((t.above.getD i []).take k).length = k := by rw [List.length_take]; omega
                  rw [List.take_succ_eq_append_getElem hkl, link_snoc, ho.out, hy, e, e2]
                  simp only [List.append_assoc]; rfl
                clear ho hy hx hkl hcq0 hcx0 v3
                rcases Nat.eq_zero_or_pos k with hk0 | hk0
                · rw [if_pos hk0] at HO
                  have hg3 : ((k : Int) == 0) = true := by rw [beq_iff_eq]; omega
                  clear hk0
                  go_wp2
                  go_quiet (fail)
                  go_wp2
                  go_roundw
                  case rel => exact ⟨k + 1, _, by omega, by go_num, by first | (rw [lit_app2, mkS_append]) | rfl, HO, hb.out.trans (below_drewAt _ _ _)⟩
                  case measure => simp [intOf]; omega
                · rw [if_neg (by omega)] at HO
                  have hg3 : ((k : Int) == 0) = false := by rw [beq_eq_false_iff_ne]; omega
                  go_wp2
                  go_quiet (fail)
                  go_wp2
                  go_roundw
                  case rel => exact ⟨k + 1, _, by omega, by go_num, by first | (rw [lit_app2, mkS_append]) | rfl, HO, hb.out.trans (below_drewAt _ _ _)⟩
                  case measure => simp [intOf]; omega
              · have HF2 : Hid (os = preT t (i + 1)) := HB.out os (by rw [ho.out, List.take_of_length_le (by have := HM.out; omega), HBE.out])
                clear ho
                go_wp2
                go_roundw
                case rel => exact ⟨i + 1, os, by omega, by go_num, rfl, HF2, hb⟩
                case measure => simp [intOf]; omega
      · have hin : i = n := by omega
        have HR : Hid (mkS P ++ ⟨#[32, 125]⟩ = mkS (textF t)) := by
          show _ = _
          rw [lit_app2, HTX.out, hP.out, hin]
        have u1 : (mkS P).size + 2 ≤ 281474976710656 := by omega
        clear hin hP
        go_wp2
        rw [HR.out]
        go_ret2
        exact ⟨rfl, HB2.out.trans (hb.out.mono HB2.out.size)⟩
end Go.Proofs.YtmooikdodbjgpaaDoor.Or
