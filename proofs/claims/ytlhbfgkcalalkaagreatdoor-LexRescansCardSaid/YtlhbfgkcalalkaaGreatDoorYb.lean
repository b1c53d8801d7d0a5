/- The reference's Scan. -/
import Derived.Test.YtlhbfgkcalalkaaGreatDoorYa
import Derived.Test.YtlhbfgkcalalkaaGreatDoorIb
import Derived.Test.YtlhbfgkcalalkaaGreatDoorUa
set_option linter.unusedVariables false
set_option linter.unusedSimpArgs false
namespace Go.Proofs.YtlhbfgkcalalkaaGreatDoor
open Go.RowKit Go.Shelf

/-- No gap begins a text. -/
def noGap (r : List UInt8) : Prop := ∀ c ∈ r.head?, c ≠ 10 ∧ c ≠ 32 ∧ c ≠ 37
theorem gap_next (l : List UInt8) (b : Nat) (hb : b ≤ l.length) (h : (blankF false l).drop b = blankF false (l.drop b)) :
    pst isGap (blankF false l) b = b + gapF false (l.drop b) ∧ (blankF false l).drop (b + gapF false (l.drop b)) = blankF false (l.drop (b + gapF false (l.drop b))) ∧ noGap (l.drop (b + gapF false (l.drop b))) ∧ b + gapF false (l.drop b) ≤ l.length := by
  have hle := gapF_le false (l.drop b)
  rw [List.length_drop] at hle
  refine ⟨?_, ?_, ?_, by omega⟩
  · unfold pst; rw [h, gap_take]
  · rw [← List.drop_drop, h, gap_drop, List.drop_drop]
  · by_cases hlt : gapF false (l.drop b) < (l.drop b).length
    · have := gap_head false (l.drop b) hlt
      rw [List.drop_drop] at this; exact this
    · rw [List.length_drop] at hlt
      rw [List.drop_of_length_le (by omega)]
      intro c hc; cases hc
theorem tok_next (l : List UInt8) (a k : Nat) (t : List UInt8) (ha : a < l.length) (h : (blankF false l).drop a = blankF false (l.drop a)) (ht : tokR (l.drop a) = (some k, t)) :
    a + t.length ≤ l.length ∧ 0 < t.length ∧ (blankF false l).drop (a + t.length) = blankF false (l.drop (a + t.length)) := by
  obtain ⟨⟨r, hr⟩, hne⟩ := tokR_prefix (l.drop a) k (by rw [ht])
  rw [ht] at hr hne
  simp only at hr hne
  have hlen := congrArg List.length hr
  rw [List.length_append, List.length_drop] at hlen
  have e : l.drop (a + t.length) = r := by rw [← List.drop_drop, ← hr, List.drop_left]
  refine ⟨by omega, List.length_pos_iff.2 hne, ?_⟩
  rw [← List.drop_drop, h, e, ← hr, blankF_keep t r (tokR_plain _ k t ht), List.drop_left]
theorem tokR_kinds (l : List UInt8) (k : Nat) (t : List UInt8) (h : tokR l = (some k, t)) : 0 < k ∧ k < 5 := by
  cases l with
  | nil => simp [tokR] at h
  | cons c r =>
    unfold tokR at h
    simp only at h
    split at h
    · have h1 := (Prod.mk.inj h).1
      unfold wordK at h1
      split at h1
      · cases h1; decide
      · split at h1
        · cases h1
        · cases h1; decide
    · split at h
      · have h1 := (Prod.mk.inj h).1
        unfold numK at h1
        split at h1
        · cases h1; decide
        · cases h1
      · cases hs : signAt (c :: r) with
        | none => rw [hs] at h; simp at h
        | some u =>
          rw [hs] at h
          have h1 := (Prod.mk.inj h).1
          cases h1; decide

set_option maxRecDepth 100000 in
set_option maxHeartbeats 2000000 in
theorem refScan_bad (l : List UInt8) (w : World) (hs : l.length ≤ 140737488355328) (h : chkE l ≠ 0) :
    Calls Tryz.prog 11 #[.string (mkS l)] w (ScanP (scanF l).1 (scanF l).2.1 (scanF l).2.2 w) := by
  obtain ⟨E, hE⟩ : ∃ E : Int, E = chkE l := ⟨_, rfl⟩
  have hf : Hid (scanF l = ([], chkAt l, chkE l)) := by show _ = _; unfold scanF; rw [if_pos h]
  have CC : Hid (∀ W, Calls Tryz.prog 30 #[.string (mkS l)] W fun e w' => e = .returned (.tuple #[.int .i64 (chkAt l), .int .i64 E]) ∧ W = w') := fun W => by
    have := check_any (mkS l) W (by rw [mkS_size]; unfold maxLen; omega)
    rw [mkS_list, ← hE] at this; exact this
  have hb : (E != 0) = true := by rw [bne_iff_ne, hE]; omega
  have HE := Lib.hid hE
  clear h hE
  go_enter Tryz.func11, Tryz.ntmps11
  go_wp2_with fail
  refine (CC.out _).mono ?_
  rintro e w' ⟨rfl, rfl⟩
  go_wp2
  refine bodyPost_ret (v := .tuple #[.slice none 0 0, .int .i64 (chkAt l), .int .i64 E]) (by simp [results, Tryz.results11, go_sem]) rfl ⟨.slice none 0 0, ?_, ?_, Below.refl _ _⟩
  · rw [hf.out, HE.out]
  · rw [hf.out]; exact World.ownsRow_nil _ _ _ _

set_option maxRecDepth 100000 in
set_option maxHeartbeats 4000000 in
theorem refScan_ok (l : List UInt8) (w : World) (h : chkE l = 0) :
    Calls Tryz.prog 11 #[.string (mkS l)] w (ScanP (scanF l).1 (scanF l).2.1 (scanF l).2.2 w) := by
  have hl : l.length ≤ 2500 := chkE_len h
  obtain ⟨p, hp⟩ : ∃ p, p = blankF false l := ⟨_, rfl⟩
  have hpl : p.length = l.length := by rw [hp]; exact blankF_length _ _
  have hf : Hid (scanF l = scanGo p (l.length + 1) (pst isGap p 0) []) := by show _ = _; unfold scanF; rw [if_neg (by omega), blankL_eq, ← hp]
  have CC : Hid (∀ W, Calls Tryz.prog 30 #[.string (mkS l)] W fun e w' => e = .returned (.tuple #[.int .i64 (chkAt l), .int .i64 0]) ∧ W = w') := fun W => by
    have := check_any (mkS l) W (by rw [mkS_size]; unfold maxLen; omega)
    rw [mkS_list, h] at this; exact this
  have hsz : (mkS l).size = l.length := mkS_size l
  have CG : Hid (∀ (W : World) (a : Nat), a ≤ l.length → p.drop a = blankF false (l.drop a) → Calls Tryz.prog 31 #[.string (mkS l), .int .i64 a] W fun e w' => e = .returned (.int .i64 (pst isGap p a)) ∧ W = w') := fun W a ha hpa => by
    have := gap_any (mkS l) a W (by rw [hsz]; unfold maxLen; omega) (by rw [hsz]; exact ha)
    rw [mkS_list] at this
    rw [hp] at hpa ⊢
    rw [(gap_next l a ha hpa).1]; exact this
  have CN : Hid (∀ a, a ≤ l.length → p.drop a = blankF false (l.drop a) → p.drop (pst isGap p a) = blankF false (l.drop (pst isGap p a)) ∧ noGap (l.drop (pst isGap p a)) ∧ pst isGap p a ≤ l.length) := fun a ha hpa => by
    rw [hp] at hpa ⊢
    obtain ⟨e1, e2, e3, e4⟩ := gap_next l a ha hpa
    rw [e1]; exact ⟨e2, e3, e4⟩
  have CT : Hid (∀ (W : World) (a : Nat), a < l.length → noGap (l.drop a) → p.drop a = blankF false (l.drop a) → tokR (p.drop a) = tokR (l.drop a) ∧ Calls Tryz.prog 32 #[.string (mkS l), .int .i64 a] W fun e w' => e = .returned (.agg #[.int .u8 ((tokR (l.drop a)).1.getD 0), .string (mkS (tokR (l.drop a)).2), .int .i64 a]) ∧ Below W.heap.size W w') := fun W a ha hg hpa => by
    refine ⟨by rw [hpa, tokR_blank _ hg], ?_⟩
    have := refToken_any (mkS l) a W (by omega) (by omega)
    rw [mkS_list] at this; exact this
  have CX : Hid (∀ (a k : Nat) (t : List UInt8), a < l.length → p.drop a = blankF false (l.drop a) → tokR (l.drop a) = (some k, t) → a + t.length ≤ l.length ∧ 0 < t.length ∧ p.drop (a + t.length) = blankF false (l.drop (a + t.length))) := fun a k t ha hpa ht => by
    rw [hp] at hpa ⊢; exact tok_next l a k t ha hpa ht
  have HP0 : Hid (p.drop 0 = blankF false (l.drop 0)) := by show _ = _; rw [hp]; rfl
  have HPL := Lib.hid hpl; have HSZ := Lib.hid hsz
  obtain ⟨i0, hi, hz0, hz1, hz2⟩ := info_parts infoL
  clear hp hpl h hsz
  go_enter Tryz.func11, Tryz.ntmps11
  go_wp2_with fail
  refine (CC.out _).mono ?_
  rintro e w' ⟨rfl, rfl⟩
  go_wp2_with fail
  refine (CG.out _ 0 (Nat.zero_le _) HP0.out).mono ?_
  rintro e w' ⟨rfl, rfl⟩
  go_wp2
  go_loopw [7, 8] (fun out at_ wr => ∃ (a f : Nat) (acc : List Lx), at_ = .int .i64 a ∧ a ≤ l.length ∧ Hid (scanGo p f a acc = scanF l) ∧ Hid (l.length < a + f) ∧ acc.length ≤ 900 ∧ wr.ownsRow w.heap.size 51 3 out acc.length (rowCells acc) ∧ Hid (Below w.heap.size w wr) ∧ Hid (p.drop a = blankF false (l.drop a) ∧ noGap (l.drop a)))
    (fun _ at_ _ => l.length - (intOf at_).toNat)
  case atStart =>
    obtain ⟨c1, c2, c3⟩ := CN.out 0 (Nat.zero_le _) HP0.out
    exact ⟨pst isGap p 0, l.length + 1, [], rfl, c3, hf.out.symm, by show _ < _; omega, by simp, World.ownsRow_nil _ _ _ _, Below.refl _ _, c1, c2⟩
  case round =>
    obtain ⟨a, f, acc, rfl, ha, hgo, hfu, hacc, hrow, hbel, hdr⟩ := hrel
    by_cases hlt : a < l.length
    · have hlt2 : a < (mkS l).size := by rw [HSZ.out]; exact hlt
      obtain ⟨f', rfl⟩ : ∃ f', f = f' + 1 := ⟨f - 1, by have := hfu.out; omega⟩
      obtain ⟨et, CT2⟩ := CT.out wr a hlt hdr.out.2 hdr.out.1
      have hstep := hgo.out
      rw [scanGo, if_pos (by rw [HPL.out]; exact hlt), et] at hstep
      obtain ⟨q, t, hqt⟩ : ∃ q t, tokR (l.drop a) = (q, t) := ⟨_, _, rfl⟩
      rw [hqt] at hstep CT2
      cases q with
      | none =>
        have hfin : Hid (scanF l = ([], a, 4)) := hstep.symm
        have CT3 : Hid (Calls Tryz.prog 32 #[.string (mkS l), .int .i64 a] wr fun e w' => e = .returned (.agg #[.int .u8 0, .string (mkS t), .int .i64 a]) ∧ Below wr.heap.size wr w') := CT2
        clear hstep hqt CT2 et CT CX CN CG hlt
        go_wp2_with fail
        refine CT3.out.mono ?_
        rintro e w3 ⟨rfl, hb3⟩
        have HB3 := Lib.hid (hbel.out.trans (hb3.mono hbel.out.size))
        clear hb3
        go_wp2
        refine bodyPost_ret (v := .tuple #[.slice none 0 0, .int .i64 a, .int .i64 4]) (by simp [results, Tryz.results11, go_sem]) rfl ⟨.slice none 0 0, ?_, ?_, ?_⟩
        · rw [hfin.out]; rfl
        · rw [hfin.out]; exact World.ownsRow_nil _ _ _ _
        · exact HB3.out.alloc HB3.out.size _
      | some k =>
        obtain ⟨htl, htp, hdr2⟩ := CX.out a k t hlt hdr.out.1 hqt
        obtain ⟨hk0, hk5⟩ := tokR_kinds _ _ _ hqt
        have CT3 : Hid (Calls Tryz.prog 32 #[.string (mkS l), .int .i64 a] wr fun e w' => e = .returned (.agg #[.int .u8 k, .string (mkS t), .int .i64 a]) ∧ Below wr.heap.size wr w') := CT2
        have gk : ((k : Int) == 0) = false := by rw [beq_eq_false_iff_ne]; omega
        have HTS : Hid ((mkS t).size = t.length) := mkS_size t
        have HDR2 := Lib.hid hdr2
        clear CT2 hqt et hdr2
        simp only at hstep
        by_cases hfull : acc.length = 900
        · rw [if_pos hfull] at hstep
          have hfin : Hid (scanF l = ([], a, 5)) := hstep.symm
          clear hstep
          have hlen900 : ∀ out', wr.ownsRow w.heap.size 51 3 out' acc.length (rowCells acc) → ∃ g cap, out' = .slice (some ⟨g, 0, none⟩) 900 cap := fun out' h => by
            rcases h.2 with ⟨_, h0⟩ | ⟨g, cap, cur, rfl, _⟩
            · omega
            · exact ⟨g, cap, by rw [hfull]⟩
          obtain ⟨gg, cap, rfl⟩ := hlen900 _ hrow
          clear hlen900 hfull CT CX CN CG
          go_wp2_with fail
          refine CT3.out.mono ?_
          rintro e w3 ⟨rfl, hb3⟩
          have HB3 := Lib.hid (hbel.out.trans (hb3.mono hbel.out.size))
          clear hb3
          go_wp2
          refine bodyPost_ret (v := .tuple #[.slice none 0 0, .int .i64 a, .int .i64 5]) (by simp [results, Tryz.results11, go_sem]) rfl ⟨.slice none 0 0, ?_, ?_, ?_⟩
          · rw [hfin.out]; rfl
          · rw [hfin.out]; exact World.ownsRow_nil _ _ _ _
          · exact HB3.out.alloc HB3.out.size _
        · rw [if_neg hfull] at hstep
          have hln : acc.length < 900 := by omega
          have HST := Lib.hid hstep
          clear hstep hfull
          obtain ⟨ptr, cap, rfl⟩ := ownsRow_slice hrow
          have hne9 : ((acc.length : Int) == 900) = false := by rw [beq_eq_false_iff_ne]; omega
          go_wp2_with fail
          refine CT3.out.mono ?_
          rintro e w3 ⟨rfl, hb3⟩
          have hrow3 := ownsRow_below hrow hb3
          have hsz3 := hb3.size
          have hszb := hbel.out.size
          have HB3 := Lib.hid hb3; clear hb3
          go_wp2_with (at_builtin; refine wpList_append_own _ rfl _ _ 24 rfl w.heap.size 51 i0 (.agg #[.int .u8 0, .string ⟨#[]⟩, .int .i64 0]) 3 32 Tryz.underlying24 hi hz0 hz1 hz2 rfl (by decide) _ _ _ rfl ((hrow3.alloc _).alloc _) ⟨w3.heap.size + 1, 0, none⟩ 1 1 (lxCells (k, t, a)) rfl rfl ?c1 (lxCells_one _) (by unfold maxLen; omega) (by omega) (by simp; omega) ?_)
          case c1 => exact cells_new3 (w3.alloc _) (k, t, (a : Int)) _ _ (by simp)
          intro v' w' hown' hgrow _
          have hlt4 := hrow.lt
          have hbel' : Below w.heap.size w w' := by
            refine Below.grown (((hbel.out.trans (HB3.out.mono hszb)).alloc (by omega) _).alloc (by simp; omega) _) hgrow (by simp; omega) (fun j hj => (hlt4 j hj).1)
          have kt : w'.cell? ⟨w3.heap.size, 1, none⟩ = some (.string (mkS t)) := by
            have e1 : w'.heap[w3.heap.size]? = ((w3.alloc (Obj.cells #[Value.int IntKind.u8 k, Value.string (mkS t), Value.int IntKind.i64 a] 51)).alloc (Obj.cells #[Value.int IntKind.u8 k, Value.string (mkS t), Value.int IntKind.i64 a] 51)).heap[w3.heap.size]? :=
              hgrow.block _ (by simp; omega) (fun e => by have := (hlt4 _ e.symm).2; omega)
            rw [World.cell?_of_block e1, World.cell?_alloc_past _ _ _ (by simp), World.cell?_alloc_at _ _ _ _ rfl]; rfl
          have CG2 : Hid (∀ (W : World), Calls Tryz.prog 31 #[.string (mkS l), .int .i64 ((a : Int) + ((mkS t).size : Int))] W fun e w' => e = .returned (.int .i64 (pst isGap p (a + t.length))) ∧ W = w') := fun W => by
            have := CG.out W (a + t.length) htl HDR2.out
            rw [HTS.out]
            simpa using this
          have hrowN : w'.ownsRow w.heap.size 51 3 v' (acc ++ [(k, t, (a : Int))]).length (rowCells (acc ++ [(k, t, (a : Int))])) := by
            rw [rowCells_snoc, List.length_append]; exact hown'
          have HB4 := Lib.hid hbel'
          have HN := Lib.hid (CN.out (a + t.length) htl HDR2.out)
          have hw0 : IntKind.i64.wrap ((a : Int) + ((mkS t).size : Int)) = (a : Int) + ((mkS t).size : Int) := IntWalk.i64_in _ (by have := HTS.out; omega)
          clear hown' hgrow hbel' hrow3 hlt4 hrow CG CN CT CX
          go_wp2_with fail
          refine (CG2.out _).mono ?_
          rintro e w'' ⟨rfl, rfl⟩
          go_wp2
          go_roundw
          case rel =>
            refine ⟨pst isGap p (a + t.length), f', acc ++ [(k, t, (a : Int))], rfl, HN.out.2.2, HST.out, ?_, by simp; omega, hrowN, HB4.out, HN.out.1, HN.out.2.1⟩
            have := hfu.out; have := pst_ge isGap p (a + t.length); show l.length < _; omega
          case measure =>
            have := pst_ge isGap p (a + t.length)
            have := HN.out.2.2
            simp [intOf]; omega
    · have hfin : Hid (scanF l = (acc, 0, 0)) := by
        show _ = _; rw [← hgo.out]
        cases f with
        | zero => rfl
        | succ f => rw [scanGo, if_neg (by rw [HPL.out]; exact hlt)]
      have hlt2 : ¬ a < (mkS l).size := by rw [HSZ.out]; exact hlt
      obtain ⟨ptr, cap, rfl⟩ := ownsRow_slice hrow
      have HR := Lib.hid hrow
      clear hrow CG CN CT CX
      go_wp2
      refine bodyPost_ret (v := .tuple #[.slice ptr acc.length cap, .int .i64 0, .int .i64 0]) (by simp [results, Tryz.results11, go_sem]) rfl ⟨.slice ptr acc.length cap, ?_, ?_, ?_⟩
      · rw [hfin.out]; rfl
      · rw [hfin.out]; exact HR.out
      · exact hbel.out

theorem refScan_any (l : List UInt8) (w : World) (hs : l.length ≤ 140737488355328) :
    Calls Tryz.prog 11 #[.string (mkS l)] w (ScanP (scanF l).1 (scanF l).2.1 (scanF l).2.2 w) := by
  by_cases h : chkE l = 0
  · exact refScan_ok l w h
  · exact refScan_bad l w hs h
end Go.Proofs.YtlhbfgkcalalkaaGreatDoor
