/- The contract of formed. -/
import Derived.Test.YtgbjelglifihnaaDoorOrP
set_option linter.unusedVariables false
set_option linter.unusedSimpArgs false
namespace Go.Proofs.YtgbjelglifihnaaDoor.Or
open Go.RowKit

/-- Texts of a table that any machine holds. -/
def Small (t : Tab) : Prop := t.name.length ≤ 281474976710656 ∧ ∀ s ∈ t.elems, s.length ≤ 281474976710656

theorem everyNames (ve : Value) (ls : List (List UInt8)) (w : World) (hv : RdS w ve ls) (hs : ∀ s ∈ ls, s.length ≤ 281474976710656) :
    Calls Tryd.prog 103 #[ve, .func (.func 104) #[] #[]] w fun e w' => e = .returned (.bool (ls.all nameF)) ∧ Below w.heap.size w w' := by
  refine (everyS_st ve (ls.map strV) 104 #[] (fun k => nameF (ls.getD k [])) (fun _ W => Below w.heap.size w W) w (enters_of Tryd.func104 (by kernel_rfl) rfl) (fun k W h => Rd.below hv h) (Below.refl _ _) (fun k W hk h => ?_)).mono ?_
  · have hk' : k < ls.length := by simpa using hk
    have hx : (ls.map strV)[k] = .string (mkS (ls.getD k [])) := by simp [strV, List.getD_eq_getElem?_getD, hk']
    rw [hx]
    refine (isName_any (ls.getD k []) W (hs _ (by simp [List.getD_eq_getElem?_getD, hk']))).mono ?_
    rintro e w' ⟨rfl, hb⟩
    exact ⟨rfl, h.trans (hb.mono h.size)⟩
  · rintro e w' ⟨rfl, k, hb⟩
    exact ⟨ret_bool (by rw [all_range ls [] nameF, List.length_map]), hb⟩

set_option maxRecDepth 100000 in
theorem formed1 (v : Value) (l : List Int) (n : Int) (bn : Nat) (w : World) (hv : RdI w v l) (hn : w.cell? ⟨bn, 0, none⟩ = some (.int .i64 n)) :
    Calls Tryd.prog 106 #[v, .pointer (some ⟨bn, 0, none⟩)] w fun e w' => e = .returned (.bool (ascF n (-1) l)) ∧ Below w.heap.size w w' := by
  have C := Lib.hid (ascends_any v l n w hv)
  obtain ⟨p, cap, rfl⟩ := hv.form
  clear hv
  go_enter Tryd.func106, Tryd.ntmps106
  go_wp2_with fail
  refine C.out.mono ?_
  rintro e w' ⟨rfl, hb⟩
  go_wp2
  go_ret
  exact ⟨rfl, hb⟩
theorem everyAsc (va : Value) (ls : List (List Int)) (n : Int) (bn : Nat) (w : World) (hv : RdII w va ls) (hn : w.cell? ⟨bn, 0, none⟩ = some (.int .i64 n)) :
    Calls Tryd.prog 105 #[va, .func (.func 106) #[] #[.pointer (some ⟨bn, 0, none⟩)]] w fun e w' => e = .returned (.bool (ls.all (ascF n (-1)))) ∧ Below w.heap.size w w' := by
  obtain ⟨vs, h1, h2, h3⟩ := hv
  refine (everyL_st va vs 106 #[.pointer (some ⟨bn, 0, none⟩)] (fun k => ascF n (-1) (ls.getD k [])) (fun _ W => Below w.heap.size w W) w (enters_of Tryd.func106 (by kernel_rfl) rfl) (fun k W h => h1.below h) (Below.refl _ _) (fun k W hk h => ?_)).mono ?_
  · have hk' : k < ls.length := by omega
    have hl : RdI W vs[k] (ls.getD k []) := by
      have := (h3 k hk' hk).below h
      simpa [List.getD_eq_getElem?_getD, hk'] using this
    refine (formed1 vs[k] (ls.getD k []) n bn W hl ((h.cell (cell_lt hn)).trans hn)).mono ?_
    rintro e w' ⟨rfl, hb⟩
    exact ⟨rfl, h.trans (hb.mono h.size)⟩
  · rintro e w' ⟨rfl, k, hb⟩
    exact ⟨ret_bool (by rw [all_range ls [] (ascF n (-1)), h2]), hb⟩

set_option maxRecDepth 100000 in
set_option maxHeartbeats 4000000 in
theorem formed_any (t : Tab) (ve va vw : Value) (w : World) (hT : TabIn w ve va vw t) (hS : Small t) (hL : LaidOk w) :
    Calls Tryd.prog 57 #[tabV t ve va vw] w fun e w' => e = .returned (.bool (frmF t)) ∧ Below w.heap.size w w' := by
  obtain ⟨pe, ce, rfl⟩ := hT.e.form
  obtain ⟨pa, ca, rfl⟩ := hT.a.form
  obtain ⟨pw, cw, rfl⟩ := hT.w.form
  have l1 := hT.e.len; have l2 := hT.a.len; have l3 := hT.w.len
  have HF : Hid (frmF t = (headF t && (tnameF t.name && t.elems.all nameF && distF t.elems && t.above.all (ascF t.elems.length (-1))))) := frm_code t
  have HH : Hid (headF t = (decide (1 ≤ t.elems.length) && decide (t.elems.length ≤ 12) && decide (t.above.length = t.elems.length) && decide (t.wrong.length = t.elems.length))) := rfl
  obtain ⟨n, hn⟩ : ∃ n, n = t.elems.length := ⟨_, rfl⟩
  obtain ⟨la, hla⟩ : ∃ n, n = t.above.length := ⟨_, rfl⟩
  obtain ⟨lw, hlw⟩ : ∃ n, n = t.wrong.length := ⟨_, rfl⟩
  rw [← hn, ← hla, ← hlw] at HH
  rw [← hn] at HF
  have CN : Hid (∀ W, Below w.heap.size w W → Calls Tryd.prog 102 #[.string (mkS t.name)] W fun e w' => e = .returned (.bool (tnameF t.name)) ∧ Below W.heap.size W w') := fun W hW => namesTable_any t.name W hS.1 (hL.below hW)
  have CE : Hid (∀ W, Below w.heap.size w W → Calls Tryd.prog 103 #[.slice pe n ce, .func (.func 104) #[] #[]] W fun e w' => e = .returned (.bool (t.elems.all nameF)) ∧ Below W.heap.size W w') := fun W hW => by rw [hn]; exact everyNames _ _ W (hT.e.below hW) hS.2
  have CD : Hid (∀ W, Below w.heap.size w W → Calls Tryd.prog 88 #[.slice pe n ce] W fun e w' => e = .returned (.bool (distF t.elems)) ∧ W = w') := fun W hW => by rw [hn]; exact distinct_any _ _ W (hT.e.below hW)
  have CA : Hid (∀ W bn, Below w.heap.size w W → W.cell? ⟨bn, 0, none⟩ = some (.int .i64 n) → Calls Tryd.prog 105 #[.slice pa la ca, .func (.func 106) #[] #[.pointer (some ⟨bn, 0, none⟩)]] W fun e w' => e = .returned (.bool (t.above.all (ascF n (-1)))) ∧ Below W.heap.size W w') := fun W bn hW hc => by rw [hla]; exact everyAsc _ _ n bn W (hT.a.below hW) hc
  rw [← hn, ← hla, ← hlw] 
  unfold tabV
  obtain ⟨W2, hW2⟩ : ∃ W2, W2 = ((w.alloc (.cells #[.string (mkS t.name), .slice pe n ce, .slice pa la ca, .slice pw lw cw] 26)).alloc (.cells #[.int .i64 n] 3)) := ⟨_, rfl⟩
  have b2 : Below w.heap.size w W2 := by rw [hW2]; exact ((Below.refl _ _).alloc (Nat.le_refl _) _).alloc (by simp) _
  rw [← hn] at l1; rw [← hla] at l2; rw [← hlw] at l3
  clear hT hS hL hn hla hlw

  by_cases h1 : n < 1
  · have g1 : decide ((n : Int) < 1) = true := decide_eq_true (by omega)
    have g0 : n = 0 := by omega
    subst g0

    clear l1 l2 l3
    go_enter Tryd.func57, Tryd.ntmps57
    go_wp2
    go_ret
    exact ⟨ret_bool (by rw [HF.out, HH.out]; simp), ((Below.refl _ _).alloc (Nat.le_refl _) _).alloc (by simp) _⟩

  by_cases h2 : 12 < n
  · have g1 : decide ((n : Int) < 1) = false := decide_eq_false (by omega)
    have g2 : decide ((12 : Int) < (n : Int)) = true := decide_eq_true (by omega)
    have HX : Hid (decide (n ≤ 12) = false) := decide_eq_false (by omega)

    clear l1 l2 l3
    go_enter Tryd.func57, Tryd.ntmps57
    go_wp2
    go_ret
    exact ⟨ret_bool (by rw [HF.out, HH.out]; rw [HX.out]; simp), ((Below.refl _ _).alloc (Nat.le_refl _) _).alloc (by simp) _⟩

  have g1 : decide ((n : Int) < 1) = false := decide_eq_false (by omega)
  have g2 : decide ((12 : Int) < (n : Int)) = false := decide_eq_false (by omega)
  by_cases h3 : la = n
  rotate_left
  · have g3 : ((la : Int) != (n : Int)) = true := by rw [bne_iff_ne]; omega
    have HX : Hid (decide (la = n) = false) := decide_eq_false h3

    clear l1 l2 l3
    go_enter Tryd.func57, Tryd.ntmps57
    go_wp2
    go_ret
    exact ⟨ret_bool (by rw [HF.out, HH.out]; rw [HX.out]; simp), ((Below.refl _ _).alloc (Nat.le_refl _) _).alloc (by simp) _⟩

  have g3 : ((la : Int) != (n : Int)) = false := by rw [bne_eq_false_iff_eq]; omega
  by_cases h4 : lw = n
  rotate_left
  · have g4 : ((lw : Int) != (n : Int)) = true := by rw [bne_iff_ne]; omega
    have HX : Hid (decide (lw = n) = false) := decide_eq_false h4
    have h3' := Lib.hid h3
    clear h3

    clear l1 l2 l3
    go_enter Tryd.func57, Tryd.ntmps57
    go_wp2
    go_ret
    exact ⟨ret_bool (by rw [HF.out, HH.out]; rw [HX.out]; simp), ((Below.refl _ _).alloc (Nat.le_refl _) _).alloc (by simp) _⟩

  have g4 : ((lw : Int) != (n : Int)) = false := by rw [bne_eq_false_iff_eq]; omega
  have HT : Hid (headF t = true) := by
    show _ = _
    rw [HH.out, decide_eq_true (show 1 ≤ n by omega), decide_eq_true (show n ≤ 12 by omega), decide_eq_true h3, decide_eq_true h4]; rfl
  have HF2 : Hid (frmF t = (tnameF t.name && t.elems.all nameF && distF t.elems && t.above.all (ascF n (-1)))) := by
    show _ = _
    rw [HF.out, HT.out, Bool.true_and]
  have c3 : W2.cell? ⟨w.heap.size + 1, 0, none⟩ = some (.int .i64 n) := by rw [hW2]; simp [go_sem]
  have d0 : W2.cell? ⟨w.heap.size, 0, none⟩ = some (.string (mkS t.name)) := by rw [hW2]; simp [go_sem]
  have d1 : W2.cell? ⟨w.heap.size, 1, none⟩ = some (.slice pe n ce) := by rw [hW2]; simp [go_sem]
  have d2 : W2.cell? ⟨w.heap.size, 2, none⟩ = some (.slice pa la ca) := by rw [hW2]; simp [go_sem]
  have HW := Lib.hid hW2
  have z2 : W2.heap.size = w.heap.size + 2 := by rw [hW2]; simp
  have HZ := Lib.hid z2
  clear HF HH HT h1 h2 h3 h4 hW2 z2
  cases q1 : tnameF t.name with
  | false =>
    rw [q1] at HF2 CN
    clear q1 CE CD CA
    go_enter Tryd.func57, Tryd.ntmps57
    go_wp2_with fail
    rw [← HW.out]
    refine (CN.out _ b2).mono ?_
    rintro e w3 ⟨rfl, b3⟩
    have b3' := b2.trans (b3.mono b2.size)
    clear b3
    go_wp2
    go_ret
    exact ⟨ret_bool (by rw [HF2.out]; simp), b3'⟩
  | true =>
  rw [q1] at HF2 CN
  clear q1
  go_enter Tryd.func57, Tryd.ntmps57
  go_wp2_with fail
  rw [← HW.out]
  refine (CN.out _ b2).mono ?_
  rintro e w3 ⟨rfl, b3⟩
  have e1 : w3.cell? ⟨w.heap.size, 1, none⟩ = some (.slice pe n ce) := (b3.cell (by show _ < _; have := HZ.out; simp; omega)).trans d1
  have e2 : w3.cell? ⟨w.heap.size, 2, none⟩ = some (.slice pa la ca) := (b3.cell (by show _ < _; have := HZ.out; simp; omega)).trans d2
  have e3 : w3.cell? ⟨w.heap.size + 1, 0, none⟩ = some (.int .i64 n) := (b3.cell (by show _ < _; have := HZ.out; simp; omega)).trans c3
  have b3' := b2.trans (b3.mono b2.size)
  have z3 : w.heap.size + 1 < w3.heap.size := by have := b3.size; have := HZ.out; omega
  clear b3 b2 c3 d0 d1 d2
  cases q2 : t.elems.all nameF with
  | false =>
    rw [q2] at HF2 CE
    clear q2
    go_wp2_with fail
    refine (CE.out _ b3').mono ?_
    rintro e w4 ⟨rfl, b4⟩
    have b4' := b3'.trans (b4.mono b3'.size)
    clear b4
    go_wp2
    go_ret
    exact ⟨ret_bool (by rw [HF2.out]; simp), b4'⟩
  | true =>
  rw [q2] at HF2 CE
  clear q2
  go_wp2_with fail
  refine (CE.out _ b3').mono ?_
  rintro e w4 ⟨rfl, b4⟩
  have f1 : w4.cell? ⟨w.heap.size, 1, none⟩ = some (.slice pe n ce) := (b4.cell (by show _ < _; simp; omega)).trans e1
  have f2 : w4.cell? ⟨w.heap.size, 2, none⟩ = some (.slice pa la ca) := (b4.cell (by show _ < _; simp; omega)).trans e2
  have f3 : w4.cell? ⟨w.heap.size + 1, 0, none⟩ = some (.int .i64 n) := (b4.cell (by show _ < _; simp; omega)).trans e3
  have b4' := b3'.trans (b4.mono b3'.size)
  clear b4 b3' e1 e2 e3
  cases q3 : distF t.elems with
  | false =>
    rw [q3] at HF2 CD
    clear q3
    go_wp2_with fail
    refine (CD.out _ b4').mono ?_
    rintro e w5 ⟨rfl, rfl⟩
    go_wp2
    go_ret
    exact ⟨ret_bool (by rw [HF2.out]; simp), b4'⟩
  | true =>
  rw [q3] at HF2 CD
  clear q3
  go_wp2_with fail
  refine (CD.out _ b4').mono ?_
  rintro e w5 ⟨rfl, rfl⟩
  go_wp2_with fail
  refine (CA.out _ _ b4' f3).mono ?_
  rintro e w6 ⟨rfl, b6⟩
  have b6' := b4'.trans (b6.mono b4'.size)
  clear b6
  go_wp2
  go_ret
  exact ⟨ret_bool (by rw [HF2.out]; simp), b6'⟩
end Go.Proofs.YtgbjelglifihnaaDoor.Or
