/- The reader of order: the names above an element. -/
import Derived.Test.YtfhnigpjmljhbaaDoorOrPa
import Derived.Test.YtfhnigpjmljhbaaDoorOrCb
set_option linter.unusedVariables false
set_option linter.unusedSimpArgs false
namespace Go.Proofs.YtfhnigpjmljhbaaDoor.Or
open Go.RowKit Go.Shelf

/-- The names that stand next, with a comma and a blank between them; what is left. -/
def namesF : Nat → List UInt8 → List (List UInt8) × List UInt8
  | 0, r => ([], r)
  | f + 1, r => if prefB [44, 32] (leftF r) then (wordF r :: (namesF f (cutF [44, 32] (leftF r))).1, (namesF f (cutF [44, 32] (leftF r))).2) else ([wordF r], leftF r)
def aboveF (r : List UInt8) : List (List UInt8) × List UInt8 := if prefB [58, 32] r then namesF (r.length + 1) (cutF [58, 32] r) else ([], r)
/-- The number of bytes that a reader has left, as it stands in memory. -/
def lenAt (w : World) (b : Nat) : Nat := match w.cell? ⟨b, 0, none⟩ with
  | some (.string s) => s.size
  | _ => 0
theorem lenAt_of {b : Nat} {rest : List UInt8} {lost : Bool} {w : World} (h : Rdr b rest lost w) : lenAt w b = rest.length := by
  unfold lenAt; rw [h.cells.1.1]; exact mkS_size rest
theorem cutF_len (tx rest : List UInt8) : (cutF tx rest).length ≤ rest.length := by
  unfold cutF; split
  · rw [List.length_drop]; omega
  · omega
theorem cutF_less {tx rest : List UInt8} (h : prefB tx rest = true) : (cutF tx rest).length + tx.length = rest.length := by
  have := prefB_len h
  unfold cutF; rw [h]; simp only [if_true, List.length_drop]; omega
theorem leftF_len (rest : List UInt8) : (leftF rest).length ≤ rest.length := by
  unfold leftF; rw [List.length_drop]; omega
theorem cutF_no {tx rest : List UInt8} (h : prefB tx rest = false) : cutF tx rest = rest := by unfold cutF; rw [h]; rfl
theorem Diff.off {b n : Nat} {A B : World} (h : Diff (fun k => k = b) A B) (hb : b < n) : ∀ k, n ≤ k → ¬ (fun k => k = b) k := fun k hk e => by simp only at e; omega
theorem Diff.grown {Z : Nat → Prop} {W A C : World} (h : Diff Z W A) (hb : Below W.heap.size A C) : Diff Z W C :=
  ⟨hb.os.trans h.os, hb.tape.trans h.tape, hb.output.trans h.output, Nat.le_trans h.size hb.size, fun k hk hn => (hb.block k hk).trans (h.block k hk hn)⟩
theorem RdSt.grown {b : Nat} {r : List UInt8} {lost : Bool} {W A C : World} (h : RdSt b r lost W A) (hb : Below W.heap.size A C) (hbW : b < W.heap.size) : RdSt b r lost W C :=
  ⟨(hb.block b hbW).trans h.r, h.d.grown hb⟩
/-- What is left of a list of names that is being read. -/
structure AbI (b : Nat) (W : World) (lost : Bool) (N : Nat) (tot : List (List UInt8) × List UInt8) (v : Value) (more : Bool) (w : World) : Prop where
  st : ∃ acc r, RdSt b r lost W w ∧ w.ownsRow W.heap.size 9 1 v acc.length (acc.map strV) ∧ 2 * acc.length + r.length + (if more then 2 else 0) ≤ N ∧
    (∃ f, r.length < f ∧ tot = (acc ++ (if more then (namesF f r).1 else []), if more then (namesF f r).2 else r))

set_option maxRecDepth 100000 in
set_option maxHeartbeats 4000000 in
theorem above_any' (b : Nat) (rest : List UInt8) (lost : Bool) (w : World) (hr : Rdr b rest lost w) (hs : rest.length ≤ 900) :
    Calls Tryd.prog 101 #[.pointer (some ⟨b, 0, none⟩)] w fun e w' => ∃ v, e = .returned v ∧ w'.ownsRow w.heap.size 9 1 v (aboveF rest).1.length ((aboveF rest).1.map strV) ∧ 2 * (aboveF rest).1.length + (aboveF rest).2.length ≤ rest.length ∧ RdSt b (aboveF rest).2 lost w w' := by
  obtain ⟨i0, hi, hz0, hz1, hz2⟩ := info_parts infoStr
  have C := Lib.hid (skip_any b rest [58, 32] lost w hr)
  have hbw : b < w.heap.size := heap_lt hr
  have hst : ∀ w1, RdSt b (cutF [58, 32] rest) lost w w1 → Hid (AbI b w lost rest.length (aboveF rest) (.slice none 0 0) (prefB [58, 32] rest) w1) := fun w1 h1 => by
    refine ⟨[], _, h1, ⟨rfl, .inl ⟨rfl, rfl⟩⟩, ?_, ?_⟩
    · cases hp : prefB [58, 32] rest with
      | true => have := cutF_less hp; simp at this ⊢; omega
      | false => have := cutF_len [58, 32] rest; simp; omega
    · refine ⟨rest.length + 1, by have := cutF_len [58, 32] rest; omega, ?_⟩
      unfold aboveF
      cases hp : prefB [58, 32] rest with
      | true => simp
      | false => rw [cutF_no hp]; simp
  obtain ⟨tot, htot⟩ : ∃ x, x = aboveF rest := ⟨_, rfl⟩
  obtain ⟨N, hN⟩ : ∃ x, x = rest.length := ⟨_, rfl⟩
  obtain ⟨y, hy⟩ : ∃ x, x = prefB [58, 32] rest := ⟨_, rfl⟩
  obtain ⟨c, hc⟩ : ∃ x, x = cutF [58, 32] rest := ⟨_, rfl⟩
  rw [← htot, ← hN, ← hy, ← hc] at hst
  rw [← hy, ← hc] at C
  rw [← htot, ← hN]
  rw [← hN] at hs
  have HST := Lib.hid hst
  clear hst htot hN hy hc hr
  go_enter Tryd.func101, Tryd.ntmps101
  go_wp2_with fail
  refine C.out.mono ?_
  rintro e w1 ⟨rfl, h1⟩
  have H1 := HST.out w1 h1
  clear h1 C HST
  go_wp2_with fail
  go_loopw [3, 4] (fun v m wx => ∃ more : Bool, m = .bool more ∧ Hid (AbI b w lost N tot v more wx)) (fun _ m wx => match m with | .bool true => lenAt wx b + 1 | _ => 0)
  case atStart => exact ⟨y, rfl, H1⟩
  case round =>
    clear H1
    obtain ⟨more, rfl, hst⟩ := hrel
    obtain ⟨acc, r, hrd, hown, hle, f, hf, htot⟩ := hst.out
    obtain ⟨pv, cv, rfl⟩ := ownsRow_slice hown
    have hlr := lenAt_of hrd.r
    cases more with
    | true =>
      simp only [if_true] at hle
      have CW := Lib.hid (word_any b r lost wr hrd.r (by omega))
      have HRD := Lib.hid hrd; have HOWN := Lib.hid hown
      obtain ⟨f', rfl⟩ : ∃ f', f = f' + 1 := ⟨f - 1, by omega⟩
      have HTOT : Hid (tot = (acc ++ (namesF (f' + 1) r).1, (namesF (f' + 1) r).2)) := by show _ = _; simpa using htot
      have HLR := Lib.hid hlr; have HF := Lib.hid hf
      clear hrd hown htot hlr hf hst
      go_wp2_with fail
      refine CW.out.mono ?_
      rintro e w2 ⟨rfl, h2⟩
      have hd2 : Diff (fun k => k = b) w w2 := HRD.out.d.trans h2.d
      have hro := ownsRow_diff HOWN.out h2.d (h2.d.off hbw)
      have hs2 := hd2.size
      have HD2 := Lib.hid hd2; have HR2 := Lib.hid h2.r
      have HLT := Lib.hid hro.lt
      clear h2 hd2 CW
      go_wp2_with (at_builtin; refine wpList_append_own _ rfl _ _ 22 rfl w.heap.size 9 i0 (.string ⟨#[]⟩) 1 16 Tryd.underlying22 hi hz0 hz1 hz2 rfl (by decide) _ _ _ rfl (hro.alloc _) ⟨w2.heap.size, 0, none⟩ 1 1 [.string (mkS (wordF r))] rfl rfl ?c1 ?c2 (by unfold maxLen; omega) (by omega) (by simp; omega) ?_)
      case c1 => intro j u hj; match j, hj with | 0, hj => (simp at hj; subst hj; simp [Addr.add])
      case c2 => intro u hu; simp at hu; subst hu; rfl
      intro v' w3 hown' hgrow _
      have hb3 : Below w.heap.size w2 w3 := Below.grown ((Below.refl _ _).alloc hs2 _) hgrow (by simp; omega) (fun j hj => (HLT.out j hj).1)
      have hown3 : w3.ownsRow w.heap.size 9 1 v' (acc ++ [wordF r]).length ((acc ++ [wordF r]).map strV) := by
        rw [List.length_append, List.map_append]
        simpa [strV] using hown'
      have hst3 : RdSt b (leftF r) lost w w3 := RdSt.grown ⟨HR2.out, HD2.out⟩ hb3 hbw
      have HST3 := Lib.hid hst3; have HO3 := Lib.hid hown3
      have CS := Lib.hid (skip_any b (leftF r) [44, 32] lost w3 hst3.r)
      obtain ⟨y', hy'⟩ : ∃ x, x = prefB [44, 32] (leftF r) := ⟨_, rfl⟩
      obtain ⟨c', hc'⟩ : ∃ x, x = cutF [44, 32] (leftF r) := ⟨_, rfl⟩
      have hl1 := leftF_len r
      have hfin : ∀ w4, RdSt b c' lost w3 w4 → Hid (AbI b w lost N tot v' y' w4) ∧ (y' = true → lenAt w4 b < lenAt wr b) := fun w4 h4 => by
        have h4l : lenAt w4 b = c'.length := lenAt_of h4.r
        rw [h4l, HLR.out]
        have ho4 := ownsRow_diff HO3.out h4.d (h4.d.off hbw)
        have hd4 : RdSt b c' lost w w4 := ⟨h4.r, HST3.out.d.trans h4.d⟩
        have h3 := HTOT.out
        unfold namesF at h3
        cases hyy : y' with
        | true =>
          rw [← hy', hyy, ← hc'] at h3
          simp only [if_true] at h3
          have hcl : c'.length + 2 = (leftF r).length := by rw [hc']; exact cutF_less (tx := [44, 32]) (by rw [← hy', hyy])
          have hff := HF.out
          refine ⟨⟨_, c', hd4, ho4, ?_, f', by omega, ?_⟩, fun _ => by omega⟩
          · simp; omega
          · rw [h3]; simp
        | false =>
          rw [← hy', hyy] at h3
          simp only [Bool.false_eq_true, if_false] at h3
          have hcn : c' = leftF r := by rw [hc']; exact cutF_no (by rw [← hy', hyy])
          refine ⟨⟨_, c', hd4, ho4, ?_, c'.length + 1, by omega, ?_⟩, fun h => by cases h⟩
          · rw [hcn]; simp; omega
          · rw [h3, hcn]; simp
      rw [← hy', ← hc'] at CS
      have HFIN := Lib.hid hfin
      clear hown' hgrow hb3 hown3 hst3 hy' hc' hl1 hfin HLT HTOT HR2 HD2 HO3 HST3 hro HRD HOWN HF hle hs2
      go_wp2_with fail
      refine CS.out.mono ?_
      rintro e w4 ⟨rfl, h4⟩
      have H4 := Lib.hid (HFIN.out w4 h4)
      clear h4 CS HFIN
      go_wp2
      go_roundw
      case rel => exact ⟨y', rfl, H4.out.1⟩
      case measure =>
        have := H4.out.2
        cases y' with
        | true => simp only; have := this rfl; omega
        | false => simp only; omega
    | false =>
      have HTOT : Hid (tot = (acc, r)) := by show _ = _; simpa using htot
      have HOWN := Lib.hid hown; have HRD := Lib.hid hrd
      have HLE := Lib.hid hle
      clear htot hown hrd hst hlr hle hf
      go_wp2
      go_ret
      refine ⟨_, rfl, ?_, ?_, ?_⟩
      · rw [HTOT.out]; exact HOWN.out
      · rw [HTOT.out]; have := HLE.out; simpa using this
      · rw [HTOT.out]; exact HRD.out
end Go.Proofs.YtfhnigpjmljhbaaDoor.Or
