/- The iterator of strings.SplitSeq at a line feed. -/
import Derived.Test.YtlhbfgkcalalkaaDoorRf
import Derived.Test.YtlhbfgkcalalkaaDoorWg
import Derived.OwnWalkIn
import Derived.TacticsInMore
import Derived.LoopNIn
import Derived.LoopIn
set_option linter.unusedVariables false
set_option linter.unusedSimpArgs false
namespace Go.Proofs.YtlhbfgkcalalkaaDoor
open Go.RowKit Go.Shelf
attribute [local go_sem] Oper.semAt_some

/-- A text, cut at its line feeds. -/
def splitNl : List UInt8 → List (List UInt8)
  | [] => [[]]
  | c :: r => if c = 10 then [] :: splitNl r else match splitNl r with | [] => [[c]] | x :: xs => (c :: x) :: xs

theorem splitNl_none : ∀ l : List UInt8, Lib.indexByte l 10 = -1 → splitNl l = [l]
  | [], _ => rfl
  | c :: r, h => by
    simp only [Lib.indexByte] at h
    by_cases hc : c = 10
    · subst hc; simp at h
    · have hr : Lib.indexByte r 10 = -1 := by
        have hge := Lib.indexByte_ge r 10
        by_cases e : Lib.indexByte r 10 = -1
        · exact e
        · simp [hc, e] at h; omega
      simp only [splitNl, if_neg hc, splitNl_none r hr]
theorem splitNl_some : ∀ (l : List UInt8) (o : Nat), Lib.indexByte l 10 = (o : Int) → splitNl l = l.take o :: splitNl (l.drop (o + 1))
  | [], o, h => by simp only [Lib.indexByte] at h; omega
  | c :: r, o, h => by
    simp only [Lib.indexByte] at h
    by_cases hc : c = 10
    · subst hc
      simp at h
      obtain rfl : o = 0 := by omega
      simp [splitNl]
    · have hge := Lib.indexByte_ge r 10
      by_cases e : Lib.indexByte r 10 = -1
      · simp [hc, e] at h
      · simp [hc, e] at h
        obtain ⟨o', rfl⟩ : ∃ o', o = o' + 1 := ⟨o - 1, by omega⟩
        have hr := splitNl_some r o' (by omega)
        simp only [splitNl, if_neg hc, hr, List.take_succ_cons, List.drop_succ_cons]
/-- How much is left, read off the world. -/
def leftOf (bs : Nat) (W : World) : Nat := match W.cell? ⟨bs, 0, none⟩ with | some (.string r) => r.size | _ => 0
theorem take_mkS (r : List UInt8) (o : Nat) : (mkS r).extract 0 o = mkS (r.take o) := by
  rw [← mkS_self ((mkS r).extract 0 o), Lib.extract_data, mkS_list]; simp
theorem drop_mkS (r : List UInt8) (o : Nat) : (mkS r).extract o (mkS r).size = mkS (r.drop o) := by
  rw [← mkS_self ((mkS r).extract o (mkS r).size), Lib.extract_to_end, mkS_list]

set_option maxRecDepth 100000 in
set_option maxHeartbeats 2000000 in
theorem split_iter (n : Nat) (hn : 1 ≤ n) (bsep bs bss : Nat) (s : List UInt8) (w : World) (hs : s.length ≤ 281474976710656)
    (c1 : w.cell? ⟨bsep, 0, none⟩ = some (.string ⟨#[10]⟩)) (c2 : w.cell? ⟨bs, 0, none⟩ = some (.string (mkS s))) (c3 : w.cell? ⟨bss, 0, none⟩ = some (.int .i64 0)) (f2 : w.frozen? ⟨bs, 0, none⟩ = false)
    (h12 : bsep ≠ bs) (h23 : bss ≠ bs) :
    Iter Fence.wide n Tryd.prog 64 #[.pointer (some ⟨bsep, 0, none⟩), .pointer (some ⟨bs, 0, none⟩), .pointer (some ⟨bss, 0, none⟩)] (fun x : List UInt8 => #[Value.string (mkS x)]) (splitNl s) (fun _ k => k = bs ∨ k = bsep ∨ k = bss) w := by
  intro l J W hW hJ hY h0
  have hb1 := cell_lt c1; have hb2 := cell_lt c2; have hb3 := cell_lt c3
  have d1 := (hW.cell hb1).trans c1
  have d2 := (hW.cell hb2).trans c2
  have d3 := (hW.cell hb3).trans c3
  have g2 := (hW.frozen hb2).trans f2
  have hsz := hW.size
  have HY := Lib.hid hY; have HJ := Lib.hid hJ
  clear hY hJ c1 c2 c3 f2
  refine callsIn_of_wp Tryd.func64 rfl trivial ?_ rfl
  simp only [Tryd.ntmps64, List.size_toArray, List.length_cons, List.length_nil, Nat.reduceAdd, Nat.reduceSub, Array.replicate_succ, Array.replicate_zero, List.push_toArray, List.append_toArray, List.nil_append, List.cons_append]
  gi_wp2
  gi_loopw [7] (fun _ wr => ∃ (pre : List (List UInt8)) (r : List UInt8), Hid (splitNl s = pre ++ splitNl r) ∧ r.length ≤ s.length ∧ wr.cell? ⟨bs, 0, none⟩ = some (.string (mkS r)) ∧ wr.cell? ⟨bsep, 0, none⟩ = some (.string ⟨#[10]⟩) ∧ wr.cell? ⟨bss, 0, none⟩ = some (.int .i64 0) ∧ wr.frozen? ⟨bs, 0, none⟩ = false ∧ J pre wr)
    (fun _ wr => leftOf bs wr)
  case atStart => exact ⟨[], s, rfl, Nat.le_refl _, d2, d1, d3, g2, h0⟩
  case round =>
    obtain ⟨pre, r, hpre, hrl, k2, k1, k3, kf, hJs⟩ := hrel
    have hsize : (mkS r).size ≤ 281474976710656 := by rw [mkS_size]; omega
    have hrs : (mkS r).size = r.length := mkS_size r
    have HRS := Lib.hid hrs; clear hrs
    have hbnd : ∀ k, k = bs ∨ k = bsep ∨ k = bss → k < wr.heap.size := by
      rintro k (rfl | rfl | rfl)
      · exact cell_lt k2
      · exact cell_lt k1
      · exact cell_lt k3
    have HB := Lib.hid hbnd; clear hbnd
    by_cases hi : Lib.indexByte r 10 = -1
    · have C : Hid (∀ W m, CallsIn Fence.wide m Tryd.prog 66 #[.string (mkS r), .string ⟨#[10]⟩] W fun e w' => e = .returned (.int .i64 (-1)) ∧ W = w') := fun W m =>
        callsIn_wide.2 ((Tryd.strings_Index_one (mkS r) 10 W).mono (by rintro e w' ⟨rfl, rfl⟩; exact ⟨ret_int (by rw [mkS_list]; exact hi), rfl⟩))
      have hlast : Hid (splitNl s = pre ++ [r]) := by show _ = _; rw [hpre.out, splitNl_none r hi]
      obtain ⟨fn, tmps, assign, body, hy, hR⟩ := HY.out pre r wr (by rw [hlast.out]; exact List.prefix_rfl) hJs HB.out
      have HR := Lib.hid hR; clear hR hi
      gi_wp2_with (refine ⟨trivial, ?_⟩; gi_at_call 66; refine (C.out _ _).mono ?_; rintro e w' ⟨rfl, rfl⟩)
      refine HR.out.mono ?_
      rintro e W3 ⟨rfl, hJ3, hk3⟩
      gi_wp2
      go_end0
      exact ⟨⟨_, rfl⟩, by rw [hlast.out]; exact hJ3⟩
    · obtain ⟨o, ho⟩ : ∃ o : Nat, Lib.indexByte r 10 = o := by
        have := Lib.indexByte_ge r 10
        exact ⟨(Lib.indexByte r 10).toNat, by omega⟩
      have hol : o < r.length := by
        have := (Lib.indexByte_some ho).1
        rcases Nat.lt_or_ge o r.length with h | h
        · exact h
        · rw [List.getElem?_eq_none h] at this; cases this
      have C : Hid (∀ W m, CallsIn Fence.wide m Tryd.prog 66 #[.string (mkS r), .string ⟨#[10]⟩] W fun e w' => e = .returned (.int .i64 (o : Int)) ∧ W = w') := fun W m =>
        callsIn_wide.2 ((Tryd.strings_Index_one (mkS r) 10 W).mono (by rintro e w' ⟨rfl, rfl⟩; exact ⟨ret_int (by rw [mkS_list]; exact ho), rfl⟩))
      have hnext : Hid (splitNl s = (pre ++ [r.take o]) ++ splitNl (r.drop (o + 1))) := by show _ = _; rw [hpre.out, splitNl_some r o ho]; simp
      obtain ⟨fn, tmps, assign, body, hy, hR⟩ := HY.out pre (r.take o) wr (by rw [hnext.out]; exact List.prefix_append _ _) hJs HB.out
      rw [← take_mkS] at hy
      have HR := Lib.hid hR; clear hR hi
      have HO := Lib.hid ho; clear ho
      have hos : o + 1 ≤ (mkS r).size := by rw [HRS.out]; omega
      gi_wp2_with (refine ⟨trivial, ?_⟩; gi_at_call 66; refine (C.out _ _).mono ?_; rintro e w' ⟨rfl, rfl⟩)
      refine HR.out.mono ?_
      rintro e W3 ⟨rfl, hJ3, hk3⟩
      have e2 : W3.cell? ⟨bs, 0, none⟩ = some (.string (mkS r)) := (World.cell?_of_block (w := wr) (hk3.block _ (HB.out _ (.inl rfl)) (.inl rfl))).trans k2
      have e1 : W3.cell? ⟨bsep, 0, none⟩ = some (.string ⟨#[10]⟩) := (World.cell?_of_block (w := wr) (hk3.block _ (HB.out _ (.inr (.inl rfl))) (.inr (.inl rfl)))).trans k1
      have e3 : W3.cell? ⟨bss, 0, none⟩ = some (.int .i64 0) := (World.cell?_of_block (w := wr) (hk3.block _ (HB.out _ (.inr (.inr rfl))) (.inr (.inr rfl)))).trans k3
      have ef : W3.frozen? ⟨bs, 0, none⟩ = false := (World.frozen?_of_block (w := wr) (hk3.block _ (HB.out _ (.inl rfl)) (.inl rfl))).trans kf
      gi_wp2
      rw [drop_mkS]
      refine ⟨⟨_, _, hnext.out, by simp; omega, World.cell?_setCell_same' _ _ _ (by rw [e2]; rfl), ?_, ?_, ?_, ?_⟩, ?_⟩
      · exact (World.cell?_of_block (w := W3) (Below.heap_setCell _ _ _ _ h12)).trans e1
      · exact (World.cell?_of_block (w := W3) (Below.heap_setCell _ _ _ _ h23)).trans e3
      · rw [World.frozen?_setCell]; exact ef
      · exact HJ.out _ _ _ hJ3 ((Diff.refl _ _).setCell (.inl rfl) _)
      · unfold leftOf
        rw [World.cell?_setCell_same' _ _ _ (by rw [e2]; rfl), k2]
        simp only [mkS_size, List.length_drop]
        omega
end Go.Proofs.YtlhbfgkcalalkaaDoor
