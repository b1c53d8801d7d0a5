/- The contract of the reference's Comments. -/
import Derived.Test.YthmhklmoodffcaaDoorPa
set_option linter.unusedVariables false
set_option linter.unusedSimpArgs false
namespace Go.Proofs.YthmhklmoodffcaaDoor
open Go.RowKit Go.WideMaps Go.Maps

theorem comG_cons (c : UInt8) (r : List UInt8) (i : Nat) (o : Option Nat) : comG (c :: r) i o = if c = 10 then (match o with | some f => [(f, i)] | none => []) ++ comG r (i + 1) none else if c = 37 ∧ o = none then comG r (i + 1) (some i) else comG r (i + 1) o := by
  cases o <;> rw [comG]
theorem infoS : (Tryd.prog.info? 74).map (fun i => (i.zero, i.size, i.bytes)) = some (some (.agg #[.int .i64 0, .int .i64 0]), 2, 16) := by kernel_rfl

set_option maxRecDepth 100000 in
set_option maxHeartbeats 4000000 in
theorem refComments_bad (l : List UInt8) (w : World) (hs : l.length ≤ 140737488355328) (h : chkE l ≠ 0) :
    Calls Tryd.prog 21 #[.string (mkS l)] w fun e w' => e = .returned (.tuple #[.slice none 0 0, .int .i64 (chkAt l), .int .i64 (chkE l)]) ∧ Below w.heap.size w w' := by
  obtain ⟨E, hE⟩ : ∃ E : Int, E = chkE l := ⟨_, rfl⟩
  obtain ⟨A, hA⟩ : ∃ A : Int, A = chkAt l := ⟨_, rfl⟩
  have CA : Hid (∀ W, Calls Tryd.prog 48 #[.string (mkS l)] W fun e w' => e = .returned (.tuple #[.int .i64 A, .int .i64 E]) ∧ W = w') := fun W => by
    have := check_any (mkS l) W (by rw [mkS_size]; unfold maxLen; omega)
    rw [mkS_list, ← hE, ← hA] at this; exact this
  have hb : (E != 0) = true := by rw [bne_iff_ne, hE]; omega
  rw [← hE, ← hA]
  clear h hE hA
  go_enter Tryd.func21, Tryd.ntmps21
  go_wp2_with fail
  refine (CA.out _).mono ?_
  rintro e w' ⟨rfl, rfl⟩
  go_wp2
  go_ret3
  exact ⟨rfl, Below.refl _ _⟩

set_option maxRecDepth 100000 in
set_option maxHeartbeats 4000000 in
theorem refComments_ok (l : List UInt8) (w : World) (hs : l.length ≤ 3000) (h : chkE l = 0) :
    Calls Tryd.prog 21 #[.string (mkS l)] w fun e w' => ∃ v, e = .returned (.tuple #[v, .int .i64 0, .int .i64 0]) ∧ w'.ownsRow w.heap.size 74 2 v (comF l).length (rowS (comF l)) ∧ Below w.heap.size w w' := by
  obtain ⟨A, hA⟩ : ∃ A : Int, A = chkAt l := ⟨_, rfl⟩
  have CA : Hid (∀ W, Calls Tryd.prog 48 #[.string (mkS l)] W fun e w' => e = .returned (.tuple #[.int .i64 A, .int .i64 0]) ∧ W = w') := fun W => by
    have := check_any (mkS l) W (by rw [mkS_size]; unfold maxLen; omega)
    rw [mkS_list, h, ← hA] at this; exact this
  have HSZ : Hid ((mkS l).size = l.length) := mkS_size l
  have hsz : (mkS l).size ≤ 3000 := by rw [HSZ.out]; exact hs
  have HF : Hid (comG l 0 none = comF l) := comG_eq l
  obtain ⟨i0, hi, hz0, hz1, hz2⟩ := info_parts infoS
  clear hs h hA
  go_enter Tryd.func21, Tryd.ntmps21
  go_wp2_with fail
  refine (CA.out _).mono ?_
  rintro e w' ⟨rfl, rfl⟩
  go_wp2
  go_loopw [7, 8, 9] (fun out fr i wr => ∃ (k : Nat) (o : Option Nat) (acc : List (Nat × Nat)), i = .int .i64 k ∧ k ≤ (mkS l).size + 1 ∧ acc.length ≤ k ∧ wr.ownsRow w.heap.size 74 2 out acc.length (rowS acc) ∧
      ((o = none ∧ fr = .int .i64 (-1)) ∨ (∃ f : Nat, o = some f ∧ fr = .int .i64 f ∧ f ≤ k)) ∧ Hid (k ≤ (mkS l).size → acc ++ comG (l.drop k) k o = comF l) ∧ Hid (k = (mkS l).size + 1 → acc = comF l) ∧ Hid (Below w.heap.size w wr))
    (fun _ _ i _ => (mkS l).size + 1 - (intOf i).toNat)
  case atStart => exact ⟨0, none, [], rfl, Nat.zero_le _, Nat.le_refl _, World.ownsRow_nil _ _ _ _, .inl ⟨rfl, rfl⟩, fun _ => by simpa using HF.out, fun e => by omega, Below.refl _ _⟩
  case round =>
    obtain ⟨k, o, acc, rfl, hk, hacc, hrow, ho, hgo, hend, hbel⟩ := hrel
    by_cases hle : k ≤ (mkS l).size
    · have d1 : decide ((k : Int) ≤ ((mkS l).size : Int)) = true := decide_eq_true (by omega)
      have d1' : (k : Int) ≤ ((mkS l).size : Int) := by omega
      have s1 : IntKind.i64.wrap ((k : Int) + 1) = ((k + 1 : Nat) : Int) := by rw [IntWalk.i64_in _ (by omega)]; omega
      have HG := Lib.hid (hgo.out hle)
      have hlt := hrow.lt
      have HLT := Lib.hid hlt
      clear hgo hend hlt
      by_cases he : k = (mkS l).size
      · have g0 : ((k : Int) == ((mkS l).size : Int)) = true := by rw [beq_iff_eq]; omega
        have HGE : Hid (acc ++ comG [] k o = comF l) := by
          have := HG.out; rw [List.drop_eq_nil_of_le (by have := HSZ.out; omega)] at this; exact this
        have HK := Lib.hid he
        clear he HG
        rcases ho with ⟨rfl, rfl⟩ | ⟨f, rfl, rfl, hf⟩
        · go_wp2
          go_roundw
          case rel => exact ⟨k + 1, none, acc, by go_num, by omega, by omega, hrow, .inl ⟨rfl, rfl⟩, fun e => by have := HK.out; omega, fun _ => by have := HGE.out; simpa [comG] using this, hbel⟩
          case measure => simp [intOf]; omega
        · have q0 : (0 : Int) ≤ (f : Int) := by omega
          have q1 : decide ((0 : Int) ≤ (f : Int)) = true := decide_eq_true q0
          obtain ⟨ptr, cap, rfl⟩ := ownsRow_slice hrow
          have hszb := hbel.out.size
          go_wp2_with (at_builtin; refine wpList_append_own _ rfl _ _ 27 rfl w.heap.size 74 i0 (.agg #[.int .i64 0, .int .i64 0]) 2 16 Tryd.underlying27 hi hz0 hz1 hz2 rfl (by decide) _ _ _ rfl (hrow.alloc _) ⟨wr.heap.size, 0, none⟩ 1 1 (stCells (f, k)) rfl rfl ?c1 (stCells_one _) (by unfold maxLen; omega) (by omega) (by simp; omega) ?_)
          case c1 => first | exact cells_new2 wr (f, k) _ _ rfl | exact fun j u h => h
          intro v' w' hown' hgrow _
          have hbel' : Below w.heap.size w w' := Below.grown (hbel.out.alloc hbel.out.size _) hgrow (by have := hbel.out.size; simp; omega) (fun j hj => (HLT.out j hj).1)
          have hrowN : w'.ownsRow w.heap.size 74 2 v' (acc ++ [(f, k)]).length (rowS (acc ++ [(f, k)])) := by
            rw [rowS_snoc, List.length_append]; exact hown'
          have HB4 := Lib.hid hbel'
          clear hown' hgrow hbel' hrow
          go_wp2
          go_roundw
          case rel => exact ⟨k + 1, none, acc ++ [(f, k)], by go_num, by omega, by simp; omega, hrowN, .inl ⟨rfl, rfl⟩, fun e => by have := HK.out; omega, fun _ => by have := HGE.out; simpa [comG] using this, HB4⟩
          case measure => simp [intOf]; omega
      · have hlt' : k < (mkS l).size := by omega
        have hkl : k < l.length := by rw [← HSZ.out]; exact hlt'
        have g0 : ((k : Int) == ((mkS l).size : Int)) = false := by rw [beq_eq_false_iff_ne]; omega
        have g0' : ¬ ((k : Int) = ((mkS l).size : Int)) := by omega
        have hk1 : k + 1 ≤ (mkS l).size + 1 := by omega
        have hdrop : l.drop k = (mkS l)[k]'hlt' :: l.drop (k + 1) := by
          have hk0 : (mkS l)[k]'hlt' = l[k] := by show (mkS l).data[k] = l[k]; simp [mkS]
          rw [hk0]; exact List.drop_eq_getElem_cons hkl
        have HGC := HG.out
        rw [hdrop] at HGC
        have HGC := Lib.hid HGC
        clear hdrop HG he hkl
        by_cases b10 : (mkS l)[k]'hlt' = 10
        · have g1 : ((((mkS l)[k]'hlt').toNat : Int) == 10) = true := by rw [b10]; rfl
          have g1' : (((mkS l)[k]'hlt').toNat : Int) = 10 := by rw [b10]; rfl
          have H2 := HGC.out
          rw [comG_cons, if_pos b10] at H2
          have HG2 := Lib.hid H2
          clear H2 b10 HGC
          rcases ho with ⟨rfl, rfl⟩ | ⟨f, rfl, rfl, hf⟩
          · go_wp2
            go_roundw
            case rel => exact ⟨k + 1, none, acc, by go_num, by omega, by omega, hrow, .inl ⟨rfl, rfl⟩, fun e => by have := HG2.out; simpa using this, fun e => by omega, hbel⟩
            case measure => simp [intOf]; omega
          · have q0 : (0 : Int) ≤ (f : Int) := by omega
            have q1 : decide ((0 : Int) ≤ (f : Int)) = true := decide_eq_true q0
            obtain ⟨ptr, cap, rfl⟩ := ownsRow_slice hrow
            have hszb := hbel.out.size
            go_wp2_with (at_builtin; refine wpList_append_own _ rfl _ _ 27 rfl w.heap.size 74 i0 (.agg #[.int .i64 0, .int .i64 0]) 2 16 Tryd.underlying27 hi hz0 hz1 hz2 rfl (by decide) _ _ _ rfl (hrow.alloc _) ⟨wr.heap.size, 0, none⟩ 1 1 (stCells (f, k)) rfl rfl ?c1 (stCells_one _) (by unfold maxLen; omega) (by omega) (by simp; omega) ?_)
            case c1 => first | exact cells_new2 wr (f, k) _ _ rfl | exact fun j u h => h
            intro v' w' hown' hgrow _
            have hbel' : Below w.heap.size w w' := Below.grown (hbel.out.alloc hbel.out.size _) hgrow (by have := hbel.out.size; simp; omega) (fun j hj => (HLT.out j hj).1)
            have hrowN : w'.ownsRow w.heap.size 74 2 v' (acc ++ [(f, k)]).length (rowS (acc ++ [(f, k)])) := by
              rw [rowS_snoc, List.length_append]; exact hown'
            have HB4 := Lib.hid hbel'
            clear hown' hgrow hbel' hrow
            go_wp2
            go_roundw
            case rel => exact ⟨k + 1, none, acc ++ [(f, k)], by go_num, by omega, by simp; omega, hrowN, .inl ⟨rfl, rfl⟩, fun e => by have := HG2.out; simpa using this, fun e => by omega, HB4⟩
            case measure => simp [intOf]; omega
        · have g1' : ¬ ((((mkS l)[k]'hlt').toNat : Int) = 10) := fun e => b10 (UInt8.toNat_inj.1 (by show _ = 10; omega))
          have g1 : ((((mkS l)[k]'hlt').toNat : Int) == 10) = false := by rw [beq_eq_false_iff_ne]; exact g1'
          by_cases b37 : (mkS l)[k]'hlt' = 37
          · have g2 : ((((mkS l)[k]'hlt').toNat : Int) == 37) = true := by rw [b37]; rfl
            have g2' : (((mkS l)[k]'hlt').toNat : Int) = 37 := by rw [b37]; rfl
            rcases ho with ⟨rfl, rfl⟩ | ⟨f, rfl, rfl, hf⟩
            · have H2 := HGC.out
              rw [comG_cons, if_neg b10, if_pos ⟨b37, rfl⟩] at H2
              have HG2 := Lib.hid H2
              clear H2 b10 b37 HGC
              go_wp2
              go_roundw
              case rel => exact ⟨k + 1, some k, acc, by go_num, by omega, by omega, hrow, .inr ⟨k, rfl, rfl, by omega⟩, fun e => HG2.out, fun e => by omega, hbel⟩
              case measure => simp [intOf]; omega
            · have H2 := HGC.out
              rw [comG_cons, if_neg b10, if_neg (by simp)] at H2
              have HG2 := Lib.hid H2
              have q0 : ¬ ((f : Int) < 0) := by omega
              have q1 : decide ((f : Int) < 0) = false := decide_eq_false q0
              clear H2 b10 b37 HGC
              go_wp2
              go_roundw
              case rel => exact ⟨k + 1, some f, acc, by go_num, by omega, by omega, hrow, .inr ⟨f, rfl, rfl, by omega⟩, fun e => HG2.out, fun e => by omega, hbel⟩
              case measure => simp [intOf]; omega
          · have g2' : ¬ ((((mkS l)[k]'hlt').toNat : Int) = 37) := fun e => b37 (UInt8.toNat_inj.1 (by show _ = 37; omega))
            have g2 : ((((mkS l)[k]'hlt').toNat : Int) == 37) = false := by rw [beq_eq_false_iff_ne]; exact g2'
            have H2 := HGC.out
            rw [comG_cons, if_neg b10, if_neg (by simp [b37])] at H2
            have HG2 := Lib.hid H2
            clear H2 b10 b37 HGC
            go_wp2
            go_roundw
            case rel => exact ⟨k + 1, o, acc, by go_num, by omega, by omega, hrow, by rcases ho with h | ⟨f, h1, h2, h3⟩; exact .inl h; exact .inr ⟨f, h1, h2, by omega⟩, fun e => HG2.out, fun e => by omega, hbel⟩
            case measure => simp [intOf]; omega
    · have d1 : decide ((k : Int) ≤ ((mkS l).size : Int)) = false := decide_eq_false (by omega)
      have d1' : ¬ ((k : Int) ≤ ((mkS l).size : Int)) := by omega
      have HE := Lib.hid (hend.out (by omega))
      clear hgo hend ho hle
      go_wp2
      go_ret3
      exact ⟨_, rfl, by rw [← HE.out]; exact hrow, hbel.out⟩
end Go.Proofs.YthmhklmoodffcaaDoor
