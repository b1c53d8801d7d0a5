/- The contract of Scan. -/
import Derived.Test.YtlhbfgkcalalkaaDoorSa
set_option linter.unusedVariables false
set_option linter.unusedSimpArgs false
namespace Go.Proofs.YtlhbfgkcalalkaaDoor
open Go.RowKit Go.WideMaps Go.Maps

theorem infoL : (Tryd.prog.info? 36).map (fun i => (i.zero, i.size, i.bytes)) = some (some (.agg #[.int .u8 0, .string ⟨#[]⟩, .int .i64 0]), 3, 32) := by kernel_rfl

/-- What Scan leaves. -/
def ScanPost (l : List UInt8) (w : World) (e : Ending) (w' : World) : Prop :=
  ∃ v, e = .returned (.tuple #[v, .int .i64 (scanF l).2.1, .int .i64 (scanF l).2.2]) ∧ w'.ownsRow w.heap.size 36 3 v (scanF l).1.length (rowCells (scanF l).1) ∧ Below w.heap.size w w'

theorem blankL_length (l : List UInt8) : (blankL l).length = l.length := blankAll_length _ _
theorem lxCells_one (x : Lx) : ∀ u ∈ lxCells x, u.oneCell' = true := by simp [lxCells, Value.oneCell']

theorem ownsRow_slice {w : World} {base : Nat} {e : TypeId} {size : Nat} {v : Value} {n : Nat} {xs : List Value} (h : w.ownsRow base e size v n xs) : ∃ (ptr : Option Addr) (cap : Nat), v = .slice ptr n cap := by
  rcases h.2 with ⟨h1, h0⟩ | ⟨g, cap, cur, h1, _⟩
  · exact ⟨none, 0, by rw [h1, h0]⟩
  · exact ⟨_, _, h1⟩
theorem cells_new3 (W : World) (x : Lx) (T n : Nat) (hn : n = W.heap.size) : ∀ (j : Nat) (u : Value), (lxCells x)[j]? = some u → (W.alloc (.cells #[.int .u8 x.1, .string (mkS x.2.1), .int .i64 x.2.2] T)).cell? ((⟨n, 0, none⟩ : Addr).add j) = some u := by
  intro j u h
  subst hn
  have hadd : (⟨W.heap.size, 0, none⟩ : Addr).add j = ⟨W.heap.size, j, none⟩ := by unfold Addr.add; split <;> simp_all
  rw [hadd, World.cell?_alloc_at _ _ _ _ rfl]
  rw [← h]; simp [lxCells]
theorem ret_tup3 {v : Value} {k m : IntKind} {a b c d : Int} (h : a = c) (h' : b = d) : Ending.returned (.tuple #[v, .int k a, .int m b]) = .returned (.tuple #[v, .int k c, .int m d]) := by rw [h, h']
theorem ownsRow_base {w : World} {base base' : Nat} {e : TypeId} {size : Nat} {v : Value} {n : Nat} {xs : List Value} (h : w.ownsRow base e size v n xs) (hb : base' ≤ base) : w.ownsRow base' e size v n xs := by
  refine ⟨h.1, ?_⟩
  rcases h.2 with hn | ⟨g, cap, cur, rfl, hg, rest⟩
  · exact .inl hn
  · exact .inr ⟨g, cap, cur, rfl, Nat.le_trans hb hg, rest⟩

set_option maxRecDepth 100000 in
set_option maxHeartbeats 4000000 in
theorem scan_any (l : List UInt8) (w : World) (hs : l.length ≤ 281474976710656) (he : ErrOk w) :
    Calls Tryd.prog 10 #[.string (mkS l)] w (ScanPost l w) := by
  have hml : (mkS l).size ≤ maxLen := by rw [mkS_size]; unfold maxLen; omega
  have CT : Hid (∀ W, Calls Tryd.prog 18 #[.string (mkS l)] W fun e w' => e = .returned (.tuple #[.int .i64 (chkAt l), .int .i64 (chkE l)]) ∧ W = w') := fun W => by
    have := textError_any (mkS l) W hml
    rw [mkS_list] at this; exact this
  by_cases hce : chkE l = 0
  case neg =>
    obtain ⟨A, hA⟩ : ∃ A : Int, A = (scanF l).2.1 := ⟨_, rfl⟩
    obtain ⟨E, hE⟩ : ∃ E : Int, E = (scanF l).2.2 := ⟨_, rfl⟩
    have hf : scanF l = ([], chkAt l, chkE l) := by unfold scanF; rw [if_pos hce]
    have h1 : (scanF l).1 = [] := by rw [hf]
    have hA' : (chkAt l : Int) = A := by rw [hA, hf]
    have hE' : (chkE l : Int) = E := by rw [hE, hf]
    rw [hA', hE'] at CT
    have hb : (E != 0) = true := by rw [bne_iff_ne, ← hE']; omega
    have HA := Lib.hid hA; have HE := Lib.hid hE; have H1 := Lib.hid h1
    clear hce hA hE h1 hf hA' hE'
    go_enter Tryd.func10, Tryd.ntmps10
    go_wp2_with (go_at_call 18; refine (CT.out _).mono ?_; rintro e w' ⟨rfl, rfl⟩)
    go_ret3
    exact ⟨.slice none 0 0, ret_tup3 HA.out HE.out, by rw [H1.out]; exact World.ownsRow_nil _ _ _ _, Below.refl _ _⟩
  case pos =>
    have hb : ((0 : Int) != 0) = false := rfl
    rw [hce] at CT
    have hf : Hid (scanF l = scanGo (blankL l) (l.length + 1) (pst isGap (blankL l) 0) []) := by show _ = _; unfold scanF; rw [if_neg (by omega)]
    obtain ⟨p, hp⟩ : ∃ p, p = blankL l := ⟨_, rfl⟩
    have hpl : p.length = l.length := by rw [hp]; exact blankL_length l
    have CB : Hid (∀ W, Calls Tryd.prog 20 #[.string (mkS l)] W fun e w' => e = .returned (.string (mkS p)) ∧ Below W.heap.size W w') := fun W => by rw [hp]; exact blanked_any l W hs
    rw [← hp] at hf
    have hps : (mkS p).size ≤ 281474976710656 := by rw [mkS_size]; omega
    have hpm : (mkS p).size ≤ maxLen := by unfold maxLen; omega
    have CP : Hid (∀ (W : World) (n a : Nat), n = W.heap.size → a ≤ (mkS p).size → Calls Tryd.prog 21 #[.string (mkS p), .int .i64 a, .slice (some ⟨n, 0, none⟩) 1 1] (W.alloc (.cells #[.int .u8 1] 56)) fun e w' => e = .returned (.int .i64 (pst isGap p a)) ∧ (W.alloc (.cells #[.int .u8 1] 56)) = w') := fun W n a hn ha => by
      subst hn
      have := past_any (mkS p) a [1] _ _ hpm ha (classes1 W 56 1)
      rw [mkS_list] at this; exact this
    have HPL := Lib.hid hpl; have HP := Lib.hid hp
    have hsz : (mkS p).size = p.length := mkS_size p
    have HSZ := Lib.hid hsz
    have HE := Lib.hid he
    clear hp hpl hsz hce he
    obtain ⟨i0, hi, hz0, hz1, hz2⟩ := info_parts infoL
    go_enter Tryd.func10, Tryd.ntmps10
    go_wp2_with (go_at_call 18; refine (CT.out _).mono ?_; rintro e w' ⟨rfl, rfl⟩)
    refine (newGrammar_any _).mono ?_
    rintro e w1 ⟨g, rfl, hg1, hb1⟩
    obtain ⟨mb, sb, rfl⟩ : ∃ mb sb, g = .agg #[.map (some mb), .slice (some ⟨sb, 0, none⟩) 22 22] := by obtain ⟨mb, sb, rfl, _⟩ := hg1; exact ⟨mb, sb, rfl⟩
    have HG := Lib.hid hg1
    clear hg1
    go_wp2_with fail
    refine (CB.out _).mono ?_
    rintro e w2 ⟨rfl, hb2⟩
    obtain ⟨hc2, hf2⟩ := bcell hb2
    have hz2' := hb2.size
    go_wp2_with (go_at_call 21; refine (CP.out _ _ 0 rfl (Nat.zero_le _)).mono ?_; rintro e w' ⟨rfl, rfl⟩)
    obtain ⟨W2, hW2⟩ : ∃ W2, W2 = w2.alloc (Obj.cells #[Value.int IntKind.u8 1] 56) := ⟨_, rfl⟩
    rw [← hW2]
    have hsz1 : (w1.alloc (Obj.cells #[Value.map (some mb), Value.slice (some ⟨sb, 0, none⟩) 22 22] 52)).heap.size = w1.heap.size + 1 := by simp
    have hbA : Below w1.heap.size w1 W2 := by
      rw [hW2]; exact (((Below.refl _ _).alloc (Nat.le_refl _) _).trans (hb2.mono (by rw [hsz1]; omega))).alloc (by rw [hsz1] at hz2'; omega) _
    have hb02 : Below w.heap.size w W2 := hb1.trans (hbA.mono hb1.size)
    have g2 : Gram W2 (.agg #[.map (some mb), .slice (some ⟨sb, 0, none⟩) 22 22]) := HG.out.below hbA
    have m0 : W2.cell? ⟨w1.heap.size, 0, none⟩ = some (.map (some mb)) := by
      rw [hW2, World.cell?_alloc_past _ _ _ (by rw [hsz1] at hz2'; omega), hc2 _ _ (by rw [hsz1]; omega)]; simp [go_sem]
    have m1 : W2.cell? ⟨w1.heap.size, 1, none⟩ = some (.slice (some ⟨sb, 0, none⟩) 22 22) := by
      rw [hW2, World.cell?_alloc_past _ _ _ (by rw [hsz1] at hz2'; omega), hc2 _ _ (by rw [hsz1]; omega)]; simp [go_sem]
    have e2 : ErrOk W2 := HE.out.below hb02
    have G2 := Lib.hid g2; have E2 := Lib.hid e2; have M0 := Lib.hid m0; have M1 := Lib.hid m1
    have M1l : w1.heap.size < W2.heap.size := cell_lt m0
    clear hW2 hc2 hf2 g2 e2 m0 m1 hsz1 hbA hb1 hb2 hz2' HG
    go_loopw [9, 10] (fun out at_ wr => ∃ (a f : Nat) (acc : List Lx), at_ = .int .i64 a ∧ a ≤ (mkS p).size ∧ Hid (scanGo p f a acc = scanF l) ∧ Hid (p.length < a + f) ∧ acc.length ≤ 900 ∧ wr.ownsRow W2.heap.size 36 3 out acc.length (rowCells acc) ∧ Hid (Below W2.heap.size W2 wr))
      (fun _ at_ _ => (mkS p).size - (intOf at_).toNat)
    case atStart =>
      refine ⟨pst isGap p 0, l.length + 1, [], rfl, ?_, hf.out.symm, ?_, by simp, World.ownsRow_nil _ _ _ _, Below.refl _ _⟩
      · rw [HSZ.out]; exact pst_le _ _ _ (Nat.zero_le _)
      · show p.length < _; rw [HPL.out]; omega
    case round =>
      obtain ⟨a, f, acc, rfl, ha, hgo, hfu, hacc, hrow, hbel⟩ := hrel
      have k0 : wr.cell? ⟨w1.heap.size, 0, none⟩ = some (.map (some mb)) := (hbel.out.cell (p := ⟨w1.heap.size, 0, none⟩) M1l).trans M0.out
      have k1 : wr.cell? ⟨w1.heap.size, 1, none⟩ = some (.slice (some ⟨sb, 0, none⟩) 22 22) := (hbel.out.cell (p := ⟨w1.heap.size, 1, none⟩) M1l).trans M1.out
      by_cases hlt : a < (mkS p).size
      · obtain ⟨f', rfl⟩ : ∃ f', f = f' + 1 := ⟨f - 1, by have := hfu.out; have := HSZ.out; omega⟩
        have hltp : a < p.length := by have := HSZ.out; omega
        have hstep := hgo.out
        rw [scanGo, if_pos hltp] at hstep
        have hpref := tokR_prefix (p.drop a)
        have CT2 : Hid (Calls Tryd.prog 22 #[.agg #[.map (some mb), .slice (some ⟨sb, 0, none⟩) 22 22], .string (mkS p), .int .i64 a] wr fun e w' => e = .returned (tokOut (tokR (p.drop a)).1 (mkS (tokR (p.drop a)).2) a) ∧ Below wr.heap.size wr w') := by
          have := token_any _ (mkS p) a wr hps ha (G2.out.below hbel.out) (E2.out.below hbel.out)
          rw [mkS_list] at this; exact this
        obtain ⟨q, t, hqt⟩ : ∃ q t, tokR (p.drop a) = (q, t) := ⟨_, _, rfl⟩
        rw [hqt] at hstep hpref CT2
        simp only at hpref
        cases q with
        | none =>
          have hfin : Hid (scanF l = ([], a, 4)) := hstep.symm
          clear hstep hpref hqt
          go_wp2_with fail
          refine CT2.out.mono ?_
          rintro e w3 ⟨rfl, hb3⟩
          unfold tokOut
          go_wp2
          go_ret3
          refine ⟨.slice none 0 0, ret_tup3 (by rw [hfin.out]) (by rw [hfin.out]; rfl), by rw [hfin.out]; exact World.ownsRow_nil _ _ _ _, ?_⟩
          exact (hb02.trans (hbel.out.mono hb02.size)).trans ((hb3.alloc (Nat.le_trans (Nat.le_refl _) hb3.size) _).mono (Nat.le_trans hb02.size hbel.out.size))
        | some k =>
          have CT3 : Hid (Calls Tryd.prog 22 #[.agg #[.map (some mb), .slice (some ⟨sb, 0, none⟩) 22 22], .string (mkS p), .int .i64 a] wr fun e w' => e = .returned (.tuple #[.agg #[.int .u8 k, .string (mkS t), .int .i64 a], .bool true]) ∧ Below wr.heap.size wr w') := CT2.out
          obtain ⟨hpre, hne⟩ := hpref k rfl
          simp only at hstep
          have htl : a + t.length ≤ p.length := by have := hpre.length_le; simp at this; omega
          have htl2 : a + (mkS t).size ≤ (mkS p).size := by rw [mkS_size, HSZ.out]; exact htl
          have htp : 0 < t.length := List.length_pos_iff.2 hne
          have HTS : Hid ((mkS t).size = t.length) := mkS_size t
          clear CT2 hqt hpre hne
          by_cases hfull : acc.length = 900
          · rw [if_pos hfull] at hstep
            have hfin : Hid (scanF l = ([], a, 5)) := hstep.symm
            clear hstep
            have hlen900 : ∀ out', wr.ownsRow W2.heap.size 36 3 out' acc.length (rowCells acc) → ∃ g cap, out' = .slice (some ⟨g, 0, none⟩) 900 cap := fun out' h => by
              rcases h.2 with ⟨_, h0⟩ | ⟨g, cap, cur, rfl, _⟩
              · omega
              · exact ⟨g, cap, by rw [hfull]⟩
            obtain ⟨gg, cap, rfl⟩ := hlen900 _ hrow
            clear hlen900 hfull
            go_wp2_with fail
            refine CT3.out.mono ?_
            rintro e w3 ⟨rfl, hb3⟩
            go_wp2
            go_ret3
            refine ⟨.slice none 0 0, ret_tup3 (by rw [hfin.out]) (by rw [hfin.out]; rfl), by rw [hfin.out]; exact World.ownsRow_nil _ _ _ _, ?_⟩
            exact (hb02.trans (hbel.out.mono hb02.size)).trans ((hb3.alloc (Nat.le_trans (Nat.le_refl _) hb3.size) _).mono (Nat.le_trans hb02.size hbel.out.size))
          · rw [if_neg hfull] at hstep
            have hln : acc.length < 900 := by omega
            have HST := Lib.hid hstep
            clear hstep hfull
            obtain ⟨ptr, cap, rfl⟩ := ownsRow_slice hrow
            have hne9 : ((acc.length : Int) == 900) = false := by rw [beq_eq_false_iff_ne]; omega
            go_wp2_with fail
            refine CT3.out.mono ?_
            rintro e w3 ⟨rfl, hb3⟩
            have hrow3 := ownsRow_below hrow hb3
            have hsz3 := hb3.size
            have hszb := hbel.out.size
            have HB3 := Lib.hid hb3; clear hb3
            go_wp2_with (first
              | (at_builtin; refine wpList_append_own _ rfl _ _ 22 rfl W2.heap.size 36 i0 (.agg #[.int .u8 0, .string ⟨#[]⟩, .int .i64 0]) 3 32 Tryd.underlying22 hi hz0 hz1 hz2 rfl (by decide) _ _ _ rfl ((hrow3.alloc _).alloc _) ⟨w3.heap.size + 1, 0, none⟩ 1 1 (lxCells (k, t, a)) rfl rfl ?c1 (lxCells_one _) (by unfold maxLen; omega) (by omega) (by simp; omega) ?_)
              | (go_at_call 21; refine (CP.out _ _ _ rfl ?_).mono ?_; rintro e w' ⟨rfl, rfl⟩))
            case c1 => exact cells_new3 (w3.alloc _) (k, t, (a : Int)) _ _ (by simp)
            intro v' w' hown' hgrow _
            have hlt4 := hrow.lt
            have hbel' : Below W2.heap.size W2 w' := by
              refine Below.grown (((hbel.out.trans (HB3.out.mono hszb)).alloc (by omega) _).alloc (by simp; omega) _) hgrow (by simp; omega) (fun j hj => (hlt4 j hj).1)
            have kt : w'.cell? ⟨w3.heap.size, 1, none⟩ = some (.string (mkS t)) := by
              have e1 : w'.heap[w3.heap.size]? = ((w3.alloc (Obj.cells #[Value.int IntKind.u8 k, Value.string (mkS t), Value.int IntKind.i64 a] 36)).alloc (Obj.cells #[Value.int IntKind.u8 k, Value.string (mkS t), Value.int IntKind.i64 a] 36)).heap[w3.heap.size]? :=
                hgrow.block _ (by simp; omega) (fun e => by have := (hlt4 _ e.symm).2; omega)
              rw [World.cell?_of_block e1, World.cell?_alloc_past _ _ _ (by simp), World.cell?_alloc_at _ _ _ _ rfl]; rfl
            have CP2 : Hid (∀ (W : World) (n : Nat), n = W.heap.size → Calls Tryd.prog 21 #[.string (mkS p), .int .i64 ((a : Int) + ((mkS t).size : Int)), .slice (some ⟨n, 0, none⟩) 1 1] (W.alloc (.cells #[.int .u8 1] 56)) fun e w' => e = .returned (.int .i64 (pst isGap p (a + t.length))) ∧ (W.alloc (.cells #[.int .u8 1] 56)) = w') := fun W n hn => by
              have := CP.out W n (a + (mkS t).size) hn htl2
              rw [HTS.out] at this ⊢
              simpa using this
            have hrowN : w'.ownsRow W2.heap.size 36 3 v' (acc ++ [(k, t, (a : Int))]).length (rowCells (acc ++ [(k, t, (a : Int))])) := by
              rw [rowCells_snoc, List.length_append]; exact hown'
            have HB4 := Lib.hid hbel'
            clear hown' hgrow hbel' hrow3 hlt4 hrow CP
            go_wp2_with (go_at_call 21; refine (CP2.out _ _ rfl).mono ?_; rintro e w'' ⟨rfl, rfl⟩)
            go_roundw
            case rel =>
              refine ⟨pst isGap p (a + t.length), f', acc ++ [(k, t, (a : Int))], rfl, ?_, HST.out, ?_, by simp; omega, hrowN.alloc _, HB4.out.alloc (HB4.out.size) _⟩
              · rw [HSZ.out]; exact pst_le _ _ _ htl
              · have := hfu.out; have := pst_ge isGap p (a + t.length); show p.length < _; omega
            case measure =>
              have := pst_ge isGap p (a + t.length)
              have := pst_le isGap p (a + t.length) htl
              have := HSZ.out
              simp [intOf]; omega
      · have hfin : Hid (scanF l = (acc, 0, 0)) := by
          show _ = _; rw [← hgo.out]
          cases f with
          | zero => rfl
          | succ f => rw [scanGo, if_neg (by have := HSZ.out; omega)]
        go_wp2
        go_ret3
        refine ⟨_, ret_tup3 (by rw [hfin.out]; rfl) (by rw [hfin.out]; rfl), by rw [hfin.out]; exact ownsRow_base hrow hb02.size, ?_⟩
        exact hb02.trans (hbel.out.mono hb02.size)
end Go.Proofs.YtlhbfgkcalalkaaDoor
