/- The contract of Diff. -/
import Derived.Test.YtlhbfgkcalalkaaDoorDb
import Derived.Lib.IndexBytes
set_option linter.unusedVariables false
set_option linter.unusedSimpArgs false
namespace Go.Proofs.YtlhbfgkcalalkaaDoor
open Go.RowKit Go.Shelf

/-- An edit: from, to, what is put. -/
abbrev Ed := Int × Int × List UInt8
def edV (x : Ed) : Value := .agg #[.int .i64 x.1, .int .i64 x.2.1, .string (mkS x.2.2)]
def noEd : Ed := (0, 0, [])
def diffFrom (a b : List UInt8) : Nat := runF (eqAt a b) (min a.length b.length) 0
def diffRest (a b : List UInt8) : Nat := runF (eqBack a b) (min a.length b.length - diffFrom a b) 0
/-- What Diff comes to. -/
def diffF (a b : List UInt8) : Ed × Nat :=
  if chkE a ≠ 0 then (noEd, chkE a) else if chkE b ≠ 0 then (noEd, chkE b)
  else (((diffFrom a b : Int), ((a.length - diffRest a b : Nat) : Int), (b.take (b.length - diffRest a b)).drop (diffFrom a b)), 0)

set_option maxRecDepth 100000 in
set_option maxHeartbeats 2000000 in
theorem diff_ok (a b : List UInt8) (w : World) (hm : a.length ≤ 281474976710656) (hm2 : b.length ≤ 281474976710656) (h1 : chkE a = 0) (h2 : chkE b = 0) :
    Calls Tryd.prog 12 #[.string (mkS a), .string (mkS b)] w fun e w' => e = .returned (.tuple #[edV (diffF a b).1, .int .i64 0]) ∧ Below w.heap.size w w' := by
  have hmlA : (mkS a).size ≤ maxLen := by rw [mkS_size]; unfold maxLen; omega
  have hmlB : (mkS b).size ≤ maxLen := by rw [mkS_size]; unfold maxLen; omega
  have CA : Hid (∀ W, Calls Tryd.prog 18 #[.string (mkS a)] W fun e w' => e = .returned (.tuple #[.int .i64 (chkAt a), .int .i64 0]) ∧ W = w') := fun W => by
    have := textError_any (mkS a) W hmlA
    rw [mkS_list, h1] at this; exact this
  have CB : Hid (∀ W, Calls Tryd.prog 18 #[.string (mkS b)] W fun e w' => e = .returned (.tuple #[.int .i64 (chkAt b), .int .i64 0]) ∧ W = w') := fun W => by
    have := textError_any (mkS b) W hmlB
    rw [mkS_list, h2] at this; exact this
  have hf : Hid ((diffF a b).1 = ((diffFrom a b : Int), ((a.length - diffRest a b : Nat) : Int), (b.take (b.length - diffRest a b)).drop (diffFrom a b))) := by
    show _ = _; unfold diffF; rw [if_neg (by omega), if_neg (by omega)]
  have hsa : (mkS a).size = a.length := mkS_size a
  have hsb : (mkS b).size = b.length := mkS_size b
  have hA48 : (mkS a).size ≤ 281474976710656 := by omega
  have hB48 : (mkS b).size ≤ 281474976710656 := by omega
  obtain ⟨F, hF⟩ : ∃ F, F = diffFrom a b := ⟨_, rfl⟩
  obtain ⟨R, hR⟩ : ∃ R, R = diffRest a b := ⟨_, rfl⟩
  have hF1 : F ≤ min a.length b.length := by rw [hF]; have := runF_le (eqAt a b) (min a.length b.length) 0; unfold diffFrom; omega
  have hR1 : R ≤ min a.length b.length - F := by rw [hR, hF]; have := runF_le (eqBack a b) (min a.length b.length - diffFrom a b) 0; unfold diffRest; omega
  have CR1 : Hid (∀ (m : Nat) (W : World) (ba bb : Nat), m = min a.length b.length → W.cell? ⟨ba, 0, none⟩ = some (.string (mkS a)) → W.cell? ⟨bb, 0, none⟩ = some (.string (mkS b)) →
      Calls Tryd.prog 31 #[.int .i64 m, .func (.func 32) #[] #[.pointer (some ⟨ba, 0, none⟩), .pointer (some ⟨bb, 0, none⟩)]] W fun e w' => e = .returned (.int .i64 F) ∧ Below W.heap.size W w') := fun m W ba bb hmm ca cb => by
    have := run_calls m 32 #[.pointer (some ⟨ba, 0, none⟩), .pointer (some ⟨bb, 0, none⟩)] (eqAt a b) W (by omega) (enters_of Tryd.func32 (by kernel_rfl) rfl)
      (fun i V hi hb => diff1 a b ba bb i V (by omega) (by omega) hm hm2 ((hb.cell (cell_lt ca)).trans ca) ((hb.cell (cell_lt cb)).trans cb))
    have e : runF (eqAt a b) m 0 = F := by rw [hF, hmm]; rfl
    rw [e] at this; exact this
  have CR2 : Hid (∀ (m : Nat) (W : World) (ba bb : Nat), m = min a.length b.length → W.cell? ⟨ba, 0, none⟩ = some (.string (mkS a)) → W.cell? ⟨bb, 0, none⟩ = some (.string (mkS b)) →
      Calls Tryd.prog 31 #[.int .i64 ((m : Int) - (F : Int)), .func (.func 33) #[] #[.pointer (some ⟨ba, 0, none⟩), .pointer (some ⟨bb, 0, none⟩)]] W fun e w' => e = .returned (.int .i64 R) ∧ Below W.heap.size W w') := fun m W ba bb hmm ca cb => by
    have := run_calls (m - F) 33 #[.pointer (some ⟨ba, 0, none⟩), .pointer (some ⟨bb, 0, none⟩)] (eqBack a b) W (by omega) (enters_of Tryd.func33 (by kernel_rfl) rfl)
      (fun i V hi hb => diff2 a b ba bb i V (by omega) (by omega) hm hm2 ((hb.cell (cell_lt ca)).trans ca) ((hb.cell (cell_lt cb)).trans cb))
    have e : runF (eqBack a b) (m - F) 0 = R := by rw [hR, hmm, hF]; rfl
    rw [e, show (((m - F : Nat)) : Int) = (m : Int) - (F : Int) by omega] at this; exact this
  have hfr1 : F + R ≤ (mkS a).size := by omega
  have hfr2 : F + R ≤ (mkS b).size := by omega
  have hput : Hid ((mkS b).extract F ((mkS b).size - R) = mkS ((b.take (b.length - R)).drop F)) := by
    show _ = _; rw [← mkS_self ((mkS b).extract F ((mkS b).size - R)), Lib.extract_data, mkS_list, hsb, List.drop_take]
  rw [← hF, ← hR] at hf
  have HSA := Lib.hid hsa; have HSB := Lib.hid hsb
  clear hsa hsb h1 h2 hF hR hF1 hR1
  have hcases : (mkS a).size ≤ (mkS b).size ∨ ¬ (mkS a).size ≤ (mkS b).size := Decidable.em _
  rcases hcases with hle | hle
  · have hmin : (mkS a).size = min a.length b.length := by have := HSA.out; have := HSB.out; omega
    have HMIN := Lib.hid hmin; clear hmin
    go_enter Tryd.func12, Tryd.ntmps12
    go_wp2_with fail
    refine (CA.out _).mono ?_
    rintro e w' ⟨rfl, rfl⟩
    go_wp2_with fail
    refine (CB.out _).mono ?_
    rintro e w' ⟨rfl, rfl⟩
    go_wp2_with fail
    refine (CR1.out _ _ _ _ HMIN.out (by simp [go_sem]) (by simp [go_sem])).mono ?_
    rintro e w1 ⟨rfl, hb1⟩
    obtain ⟨hc1, hf1⟩ := bcell' hb1
    go_wp2_with fail
    refine (CR2.out _ _ _ _ HMIN.out (by rw [hc1 _ _ (by simp; omega)]; simp [go_sem]) (by rw [hc1 _ _ (by simp)]; simp [go_sem])).mono ?_
    rintro e w2 ⟨rfl, hb2⟩
    obtain ⟨hc2, hf2⟩ := bcell' hb2
    go_wp2_with fail
    have hs1 := hb1.size
    have hs2 := hb2.size
    obtain ⟨W0, hW0⟩ : ∃ W0, W0 = ((w.alloc (Obj.cells #[Value.string (mkS a)] 9)).alloc (Obj.cells #[Value.string (mkS b)] 9)).alloc (Obj.cells #[Value.int IntKind.i64 0, Value.int IntKind.i64 0, Value.string { data := #[] }] 24) := ⟨_, rfl⟩
    rw [← hW0] at hb1 hs1
    have z0 : W0.heap.size = w.heap.size + 3 := by rw [hW0]; simp
    have hbb : Below W0.heap.size W0 w2 := hb1.trans (hb2.mono hs1)
    have a0 : w2.cell? ⟨w.heap.size, 0, none⟩ = some (.string (mkS a)) := (hbb.cell (by rw [z0]; show w.heap.size < _; omega)).trans (by rw [hW0]; simp [go_sem])
    have b0 : w2.cell? ⟨w.heap.size + 1, 0, none⟩ = some (.string (mkS b)) := (hbb.cell (by rw [z0]; show w.heap.size + 1 < _; omega)).trans (by rw [hW0]; simp [go_sem])
    have r0 : w2.cell? ⟨w.heap.size + 1 + 1, 0, none⟩ = some (.int .i64 0) := (hbb.cell (by rw [z0]; show w.heap.size + 1 + 1 < _; omega)).trans (by rw [hW0]; simp [go_sem])
    have r1 : w2.cell? ⟨w.heap.size + 1 + 1, 1, none⟩ = some (.int .i64 0) := (hbb.cell (by rw [z0]; show w.heap.size + 1 + 1 < _; omega)).trans (by rw [hW0]; simp [go_sem])
    have r2 : w2.cell? ⟨w.heap.size + 1 + 1, 2, none⟩ = some (.string ⟨#[]⟩) := (hbb.cell (by rw [z0]; show w.heap.size + 1 + 1 < _; omega)).trans (by rw [hW0]; simp [go_sem])
    have q0 : w2.frozen? ⟨w.heap.size + 1 + 1, 0, none⟩ = false := (hbb.frozen (by rw [z0]; show w.heap.size + 1 + 1 < _; omega)).trans (by rw [hW0]; simp [go_sem])
    have q1 : w2.frozen? ⟨w.heap.size + 1 + 1, 1, none⟩ = false := (hbb.frozen (by rw [z0]; show w.heap.size + 1 + 1 < _; omega)).trans (by rw [hW0]; simp [go_sem])
    have q2 : w2.frozen? ⟨w.heap.size + 1 + 1, 2, none⟩ = false := (hbb.frozen (by rw [z0]; show w.heap.size + 1 + 1 < _; omega)).trans (by rw [hW0]; simp [go_sem])
    have hfin : Below w.heap.size w w2 := by
      refine Below.trans ?_ (hbb.mono (by rw [z0]; omega))
      rw [hW0]; exact (((Below.refl _ _).alloc (Nat.le_refl _) _).alloc (by simp) _).alloc (by simp; omega) _
    clear hc1 hf1 hc2 hf2 hb1 hb2 hs1 hs2 hW0 z0 hbb hle
    have s1 : IntKind.i64.wrap (((mkS a).size : Int) - (R : Int)) = ((mkS a).size : Int) - (R : Int) := IntWalk.i64_in _ (by omega)
    have s2 : IntKind.i64.wrap (((mkS b).size : Int) - (R : Int)) = ((mkS b).size : Int) - (R : Int) := IntWalk.i64_in _ (by omega)
    go_region
    go_wp2
    refine bodyPost_ret (v := .tuple #[.agg #[.int .i64 F, .int .i64 ((mkS a).size - R), .string ((mkS b).extract F ((mkS b).size - R))], .int .i64 0]) (by simp [results, Tryd.results12, go_sem, r0, r1, r2]) rfl ⟨?_, ?_⟩
    · rw [hf.out, hput.out]
      have e1 : ((a.length - R : Nat) : Int) = ((mkS a).size : Int) - (R : Int) := by have := HSA.out; omega
      simp only [edV, e1]
    · exact (((hfin.setCell (by simp; omega) _).setCell (by simp; omega) _).setCell (by simp; omega) _).drew
  · have hmin : (mkS b).size = min a.length b.length := by have := HSA.out; have := HSB.out; omega
    have HMIN := Lib.hid hmin; clear hmin
    go_enter Tryd.func12, Tryd.ntmps12
    go_wp2_with fail
    refine (CA.out _).mono ?_
    rintro e w' ⟨rfl, rfl⟩
    go_wp2_with fail
    refine (CB.out _).mono ?_
    rintro e w' ⟨rfl, rfl⟩
    go_wp2_with fail
    refine (CR1.out _ _ _ _ HMIN.out (by simp [go_sem]) (by simp [go_sem])).mono ?_
    rintro e w1 ⟨rfl, hb1⟩
    obtain ⟨hc1, hf1⟩ := bcell' hb1
    go_wp2_with fail
    refine (CR2.out _ _ _ _ HMIN.out (by rw [hc1 _ _ (by simp; omega)]; simp [go_sem]) (by rw [hc1 _ _ (by simp)]; simp [go_sem])).mono ?_
    rintro e w2 ⟨rfl, hb2⟩
    obtain ⟨hc2, hf2⟩ := bcell' hb2
    go_wp2_with fail
    have hs1 := hb1.size
    have hs2 := hb2.size
    obtain ⟨W0, hW0⟩ : ∃ W0, W0 = ((w.alloc (Obj.cells #[Value.string (mkS a)] 9)).alloc (Obj.cells #[Value.string (mkS b)] 9)).alloc (Obj.cells #[Value.int IntKind.i64 0, Value.int IntKind.i64 0, Value.string { data := #[] }] 24) := ⟨_, rfl⟩
    rw [← hW0] at hb1 hs1
    have z0 : W0.heap.size = w.heap.size + 3 := by rw [hW0]; simp
    have hbb : Below W0.heap.size W0 w2 := hb1.trans (hb2.mono hs1)
    have a0 : w2.cell? ⟨w.heap.size, 0, none⟩ = some (.string (mkS a)) := (hbb.cell (by rw [z0]; show w.heap.size < _; omega)).trans (by rw [hW0]; simp [go_sem])
    have b0 : w2.cell? ⟨w.heap.size + 1, 0, none⟩ = some (.string (mkS b)) := (hbb.cell (by rw [z0]; show w.heap.size + 1 < _; omega)).trans (by rw [hW0]; simp [go_sem])
    have r0 : w2.cell? ⟨w.heap.size + 1 + 1, 0, none⟩ = some (.int .i64 0) := (hbb.cell (by rw [z0]; show w.heap.size + 1 + 1 < _; omega)).trans (by rw [hW0]; simp [go_sem])
    have r1 : w2.cell? ⟨w.heap.size + 1 + 1, 1, none⟩ = some (.int .i64 0) := (hbb.cell (by rw [z0]; show w.heap.size + 1 + 1 < _; omega)).trans (by rw [hW0]; simp [go_sem])
    have r2 : w2.cell? ⟨w.heap.size + 1 + 1, 2, none⟩ = some (.string ⟨#[]⟩) := (hbb.cell (by rw [z0]; show w.heap.size + 1 + 1 < _; omega)).trans (by rw [hW0]; simp [go_sem])
    have q0 : w2.frozen? ⟨w.heap.size + 1 + 1, 0, none⟩ = false := (hbb.frozen (by rw [z0]; show w.heap.size + 1 + 1 < _; omega)).trans (by rw [hW0]; simp [go_sem])
    have q1 : w2.frozen? ⟨w.heap.size + 1 + 1, 1, none⟩ = false := (hbb.frozen (by rw [z0]; show w.heap.size + 1 + 1 < _; omega)).trans (by rw [hW0]; simp [go_sem])
    have q2 : w2.frozen? ⟨w.heap.size + 1 + 1, 2, none⟩ = false := (hbb.frozen (by rw [z0]; show w.heap.size + 1 + 1 < _; omega)).trans (by rw [hW0]; simp [go_sem])
    have hfin : Below w.heap.size w w2 := by
      refine Below.trans ?_ (hbb.mono (by rw [z0]; omega))
      rw [hW0]; exact (((Below.refl _ _).alloc (Nat.le_refl _) _).alloc (by simp) _).alloc (by simp; omega) _
    clear hc1 hf1 hc2 hf2 hb1 hb2 hs1 hs2 hW0 z0 hbb hle
    have s1 : IntKind.i64.wrap (((mkS a).size : Int) - (R : Int)) = ((mkS a).size : Int) - (R : Int) := IntWalk.i64_in _ (by omega)
    have s2 : IntKind.i64.wrap (((mkS b).size : Int) - (R : Int)) = ((mkS b).size : Int) - (R : Int) := IntWalk.i64_in _ (by omega)
    go_region
    go_wp2
    refine bodyPost_ret (v := .tuple #[.agg #[.int .i64 F, .int .i64 ((mkS a).size - R), .string ((mkS b).extract F ((mkS b).size - R))], .int .i64 0]) (by simp [results, Tryd.results12, go_sem, r0, r1, r2]) rfl ⟨?_, ?_⟩
    · rw [hf.out, hput.out]
      have e1 : ((a.length - R : Nat) : Int) = ((mkS a).size : Int) - (R : Int) := by have := HSA.out; omega
      simp only [edV, e1]
    · exact (((hfin.setCell (by simp; omega) _).setCell (by simp; omega) _).setCell (by simp; omega) _).drew

set_option maxRecDepth 100000 in
set_option maxHeartbeats 2000000 in
theorem diff_bad (a b : List UInt8) (w : World) (hm : a.length ≤ 281474976710656) (hm2 : b.length ≤ 281474976710656) (h12 : chkE a ≠ 0 ∨ chkE b ≠ 0) :
    Calls Tryd.prog 12 #[.string (mkS a), .string (mkS b)] w fun e w' => e = .returned (.tuple #[edV (diffF a b).1, .int .i64 (diffF a b).2]) ∧ Below w.heap.size w w' := by
  have hmlA : (mkS a).size ≤ maxLen := by rw [mkS_size]; unfold maxLen; omega
  have hmlB : (mkS b).size ≤ maxLen := by rw [mkS_size]; unfold maxLen; omega
  obtain ⟨EA, hEA⟩ : ∃ EA : Int, EA = chkE a := ⟨_, rfl⟩
  obtain ⟨EB, hEB⟩ : ∃ EB : Int, EB = chkE b := ⟨_, rfl⟩
  have CA : Hid (∀ W, Calls Tryd.prog 18 #[.string (mkS a)] W fun e w' => e = .returned (.tuple #[.int .i64 (chkAt a), .int .i64 EA]) ∧ W = w') := fun W => by
    have := textError_any (mkS a) W hmlA
    rw [mkS_list, ← hEA] at this; exact this
  have CB : Hid (∀ W, Calls Tryd.prog 18 #[.string (mkS b)] W fun e w' => e = .returned (.tuple #[.int .i64 (chkAt b), .int .i64 EB]) ∧ W = w') := fun W => by
    have := textError_any (mkS b) W hmlB
    rw [mkS_list, ← hEB] at this; exact this
  by_cases h1 : chkE a = 0
  · have h2 : chkE b ≠ 0 := by rcases h12 with h | h; exact absurd h1 h; exact h
    have hf : Hid ((diffF a b) = (noEd, chkE b)) := by show _ = _; unfold diffF; rw [if_neg (by omega), if_pos h2]
    have hEA0 : EA = 0 := by rw [hEA, h1]; rfl
    subst hEA0
    have hb : (EB != 0) = true := by rw [bne_iff_ne, hEB]; omega
    have HB := Lib.hid hEB
    clear hEA hEB h1 h2 h12
    go_enter Tryd.func12, Tryd.ntmps12
    go_wp2_with fail
    refine (CA.out _).mono ?_
    rintro e w' ⟨rfl, rfl⟩
    go_wp2_with fail
    refine (CB.out _).mono ?_
    rintro e w' ⟨rfl, rfl⟩
    go_wp2
    refine bodyPost_ret (v := .tuple #[.agg #[.int .i64 0, .int .i64 0, .string ⟨#[]⟩], .int .i64 EB]) (by simp [results, Tryd.results12, go_sem]) rfl ⟨?_, ?_⟩
    · rw [hf.out, HB.out]; rfl
    · exact (((Below.refl _ _).alloc (Nat.le_refl _) _).alloc (by simp) _).alloc (by simp; omega) _
  · have hf : Hid ((diffF a b) = (noEd, chkE a)) := by show _ = _; unfold diffF; rw [if_pos h1]
    have hb : (EA != 0) = true := by rw [bne_iff_ne, hEA]; omega
    have HB := Lib.hid hEA
    clear hEA hEB h1 h12
    go_enter Tryd.func12, Tryd.ntmps12
    go_wp2_with fail
    refine (CA.out _).mono ?_
    rintro e w' ⟨rfl, rfl⟩
    go_wp2
    refine bodyPost_ret (v := .tuple #[.agg #[.int .i64 0, .int .i64 0, .string ⟨#[]⟩], .int .i64 EA]) (by simp [results, Tryd.results12, go_sem]) rfl ⟨?_, ?_⟩
    · rw [hf.out, HB.out]; rfl
    · exact (((Below.refl _ _).alloc (Nat.le_refl _) _).alloc (by simp) _).alloc (by simp; omega) _

theorem diff_any (a b : List UInt8) (w : World) (hm : a.length ≤ 281474976710656) (hm2 : b.length ≤ 281474976710656) :
    Calls Tryd.prog 12 #[.string (mkS a), .string (mkS b)] w fun e w' => e = .returned (.tuple #[edV (diffF a b).1, .int .i64 (diffF a b).2]) ∧ Below w.heap.size w w' := by
  by_cases h : chkE a ≠ 0 ∨ chkE b ≠ 0
  · exact diff_bad a b w hm hm2 h
  · have h1 : chkE a = 0 := by omega
    have h2 : chkE b = 0 := by omega
    have e : (diffF a b).2 = 0 := by unfold diffF; rw [if_neg (by omega), if_neg (by omega)]
    rw [e]; exact diff_ok a b w hm hm2 h1 h2
end Go.Proofs.YtlhbfgkcalalkaaDoor
