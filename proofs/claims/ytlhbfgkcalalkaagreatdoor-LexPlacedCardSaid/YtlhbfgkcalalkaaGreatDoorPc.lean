/- The contract of Comments. -/
import Derived.Test.YtlhbfgkcalalkaaGreatDoorPa
import Derived.OwnWalkIn
set_option linter.unusedVariables false
set_option linter.unusedSimpArgs false
namespace Go.Proofs.YtlhbfgkcalalkaaGreatDoor
open Go.RowKit Go.Shelf Go.WideMaps Go.Maps
attribute [local go_sem] Oper.semAt_some

theorem ownsRow_diff {Z : Nat → Prop} {w w' : World} {base : Nat} {e : TypeId} {size : Nat} {v : Value} {n : Nat} {xs : List Value} (h : w.ownsRow base e size v n xs) (hb : Diff Z w w') (hz : ∀ k, base ≤ k → ¬ Z k) : w'.ownsRow base e size v n xs := by
  refine ⟨h.1, ?_⟩
  rcases h.2 with hn | ⟨g, cap, cur, rfl, hg, hgg, rest⟩
  · exact .inl hn
  · exact .inr ⟨g, cap, cur, rfl, hg, by rw [hb.block g (Array.getElem?_eq_some_iff.1 hgg).1 (hz g hg)]; exact hgg, rest⟩
theorem ownsRow_block {w w' : World} {base : Nat} {e : TypeId} {size : Nat} {v : Value} {n : Nat} {xs : List Value} (h : w.ownsRow base e size v n xs) (hb : ∀ k, base ≤ k → k < w.heap.size → w'.heap[k]? = w.heap[k]?) : w'.ownsRow base e size v n xs := by
  refine ⟨h.1, ?_⟩
  rcases h.2 with hn | ⟨g, cap, cur, rfl, hg, hgg, rest⟩
  · exact .inl hn
  · exact .inr ⟨g, cap, cur, rfl, hg, by rw [hb g hg (Array.getElem?_eq_some_iff.1 hgg).1]; exact hgg, rest⟩

set_option maxRecDepth 100000 in
set_option maxHeartbeats 2000000 in
theorem lexComments_ok (s : List UInt8) (w : World) (hs : s.length ≤ 3000) (h : chkE s = 0) :
    Calls Tryz.prog 23 #[.string (mkS s)] w fun e w' => ∃ v, e = .returned (.tuple #[v, .int .i64 0, .int .i64 0]) ∧ w'.ownsRow w.heap.size 99 2 v (comF s).length (rowS (comF s)) ∧ Below w.heap.size w w' := by
  obtain ⟨n, hn⟩ : ∃ n : Nat, 8 ≤ n := ⟨8, Nat.le_refl _⟩
  refine (callsIn_wide (n := n)).1 ?_
  have h1n : 1 ≤ n := by omega
  have h1n2 : 1 ≤ n - 1 - 1 := by omega
  obtain ⟨A, hA⟩ : ∃ A : Int, A = chkAt s := ⟨_, rfl⟩
  have CA : Hid (∀ W, Calls Tryz.prog 25 #[.string (mkS s)] W fun e w' => e = .returned (.tuple #[.int .i64 A, .int .i64 0]) ∧ W = w') := fun W => by
    have := textError_any (mkS s) W (by rw [mkS_size]; unfold maxLen; omega)
    rw [mkS_list, h, ← hA] at this; exact this
  obtain ⟨i0, hi, hz0, hz1, hz2⟩ := info_parts infoS
  have HCL := Lib.hid (comF_length s)
  have HS3 := Lib.hid hs
  clear h hA
  refine callsIn_of_wp_marks Tryz.func23 rfl trivial ?_ rfl
  simp only [Tryz.ntmps23, List.size_toArray, List.length_cons, List.length_nil, Nat.reduceAdd, Nat.reduceSub, Array.replicate_succ, Array.replicate_zero, List.push_toArray, List.append_toArray, List.nil_append, List.cons_append]
  gi_wp2_with (first
    | (refine ⟨trivial, ?_⟩; gi_at_call 25; refine (callsIn_wide.2 (CA.out _)).mono ?_; rintro e w' ⟨rfl, rfl⟩)
    | (refine ⟨trivial, ?_⟩; gi_at_call 51; refine (callsIn_wide.2 (comments_any _ _)).mono ?_; rintro e w' ⟨rfl, rfl⟩))
  obtain ⟨m, hm⟩ : ∃ m, m = w.heap.size := ⟨_, rfl⟩
  obtain ⟨W5, hW5⟩ : ∃ W5, W5 = (w.alloc (Obj.cells #[Value.slice none 0 0] 47)).alloc (Obj.cells #[Value.string (mkS s)] 9) := ⟨_, rfl⟩
  rw [← hW5, ← hm]
  have z5 : W5.heap.size = m + 2 := by rw [hW5, hm]; simp
  have x5 : W5.cell? ⟨m, 0, none⟩ = some (.slice none 0 0) := by rw [hW5, hm]; simp [go_sem]
  have f5 : W5.frozen? ⟨m, 0, none⟩ = false := by rw [hW5, hm]; simp [go_sem]
  have s5 : W5.cell? ⟨m + 1, 0, none⟩ = some (.string (mkS s)) := by rw [hW5, hm]; simp [go_sem]
  have b5 : Below w.heap.size w W5 := by rw [hW5]; exact ((Below.refl _ _).alloc (Nat.le_refl _) _).alloc (by simp) _
  have Z5 := Lib.hid z5; have HM := Lib.hid hm
  clear hW5 z5 hm
  refine range_all (F := Fence.wide) (gf := 77) (lb := #[.pointer (some ⟨m + 1, 0, none⟩)]) (n := n) rfl (by omega) rfl trivial (enters_of Tryz.func77 (by kernel_rfl) rfl)
    (comments_iter (n - 1) (by omega) _ s W5 (by have := HS3.out; omega) s5) (Below.refl _ _) (fun _ => rfl)
    (fun k => m + 2 ≤ k ∧ k < m + 11) ?hZ ?hZ0 ?hZ1
    (fun pre V => ∃ v, V.cell? ⟨m, 0, none⟩ = some v ∧ V.frozen? ⟨m, 0, none⟩ = false ∧ V.ownsRow (m + 11) 99 2 v pre.length (rowS pre) ∧ Below w.heap.size w V)
    ?hI ⟨_, x5, f5, World.ownsRow_nil _ _ _ _, b5⟩
    (fun pre x a' V => ∃ v, (V.cell? ⟨m, 0, none⟩ = some v ∧ V.frozen? ⟨m, 0, none⟩ = false ∧ V.ownsRow (m + 11) 99 2 v pre.length (rowS pre) ∧ Below w.heap.size w V) ∧
      ∃ q, m + 11 ≤ q ∧ V.cell? ⟨q, 0, none⟩ = some (.int .i64 x.1) ∧ V.cell? ⟨q, 1, none⟩ = some (.int .i64 x.2) ∧
      a' = { tmps := #[.string (mkS s), undef, .slice none 0 0, .int .i64 0, .int .i64 0, .int .i64 A, .int .i64 0, .pointer (some ⟨m, 0, none⟩), .pointer (some ⟨q, 0, none⟩), .tuple #[.int .i64 A, .int .i64 0], .string (mkS s), .tuple #[.int .i64 A, .int .i64 0], .int .i64 A, .int .i64 0, .int .i64 0, .bool false, undef, undef, .string (mkS s), .func (.func 77) #[] #[.pointer (some ⟨m + 1, 0, none⟩)], .agg #[.int .i64 x.1, .int .i64 x.2], undef, undef, undef, undef, undef], defers := [] })
    ?hAx ?assign ?body ?hZb ?done
  case hZ => rintro W1 h1 k ⟨k1, k2⟩; have := Z5.out; exact ⟨⟨by omega, by omega⟩, by omega, by omega⟩
  case hZ0 => have := Z5.out; omega
  case hZ1 => have := Z5.out; omega
  case hZb => rintro W1 h1 k ⟨k1, k2⟩; have := Z5.out; by_cases h : k < m + 4
              · exact .inr (by omega)
              · exact .inl ⟨by omega, by omega⟩
  case hI =>
    rintro pre A B ⟨v, a1, a2, a3, a4⟩ hd
    have e := HM.out
    exact ⟨v, cell_diff a1 hd (by omega), frozen_diff a1 a2 hd (by omega), ownsRow_diff a3 hd (fun k hk => by omega), a4.trans (hd.below a4.size (by omega))⟩
  case hAx =>
    rintro pre x a' A B ⟨v, ⟨a1, a2, a3, a4⟩, q, hq, c1, c2, ha⟩ hd
    have e := HM.out
    exact ⟨v, ⟨cell_diff a1 hd (by omega), frozen_diff a1 a2 hd (by omega), ownsRow_diff a3 hd (fun k hk => by omega), a4.trans (hd.below a4.size (by omega))⟩, q, hq, cell_diff c1 hd (by omega), cell_diff c2 hd (by omega), ha⟩
  case assign =>
    rintro l' pre x V K hpre ⟨v, a1, a2, a3, a4⟩ hbnd hK
    have hq : m + 11 ≤ V.heap.size := hbnd (m + 10) ⟨by omega, by omega⟩
    have HQ := Lib.hid hq
    gi_wp2
    refine hK _ _ ((Keep.refl _ _).alloc _) ⟨v, ⟨?_, ?_, ownsRow_block a3 (fun k _ hk => Below.heap_alloc _ _ _ hk), a4.alloc a4.size _⟩, V.heap.size, hq, ?_, ?_, rfl⟩
    · rw [World.cell?_alloc_past _ _ _ (by omega)]; exact a1
    · exact (World.frozen?_of_block (w := V) (Below.heap_alloc _ _ _ (by show m < _; omega))).trans a2
    · rw [World.cell?_alloc_at _ _ _ _ rfl]; rfl
    · rw [World.cell?_alloc_at _ _ _ _ rfl]; rfl
  case body =>
    rintro l' pre x a' V hpre ⟨v, ⟨a1, a2, a3, a4⟩, q, hq, c1, c2, rfl⟩ hbnd
    obtain ⟨a, b⟩ := x
    simp only at c1 c2 ⊢
    have hq2 : m + 11 ≤ V.heap.size := hbnd (m + 10) ⟨by omega, by omega⟩
    have hpl : pre.length + 1 ≤ 3000 := by
      have h1 := hpre.length_le
      have h2 := HCL.out
      unfold comF at h2
      simp at h1; have := HS3.out; omega
    have HLT := Lib.hid a3.lt
    obtain ⟨ptr, cap, rfl⟩ := ownsRow_slice a3
    gi_wp2_with (gi_at_builtin; refine wpListIn_append_own _ rfl _ _ 47 rfl (m + 11) 99 i0 (.agg #[.int .i64 0, .int .i64 0]) 2 16 Tryz.underlying47 hi hz0 hz1 hz2 rfl (by decide) _ _ _ rfl (a3.alloc _) ⟨V.heap.size, 0, none⟩ 1 1 (stCells (a, b)) rfl rfl ?c1 (stCells_one _) (by unfold maxLen; omega) (by omega) (by simp; omega) ?_)
    case c1 => first | exact cells_new2 V (a, b) _ _ rfl | exact fun j u h => h
    intro v' w' hown' hgrow _
    obtain ⟨p2, cap2, rfl⟩ := ownsRow_slice hown'
    have hlt := HLT.out
    have hm0 : w'.heap[m]? = V.heap[m]? := by
      rw [hgrow.block m (by simp; omega) (fun e => by have := (hlt _ e.symm).1; omega)]
      exact Below.heap_alloc _ _ _ (by omega)
    have k1 : w'.cell? ⟨m, 0, none⟩ = some (.slice ptr pre.length cap) := (World.cell?_of_block (w := V) hm0).trans a1
    have k2 : w'.frozen? ⟨m, 0, none⟩ = false := (World.frozen?_of_block (w := V) hm0).trans a2
    have hkeep : Keep (fun k => m + 2 ≤ k ∧ k < m + 11) V w' := ⟨Nat.le_trans (by simp) hgrow.size, fun k hk hz => by
      rw [hgrow.block k (by simp; omega) (fun e => by have := (hlt _ e.symm).1; omega)]
      exact Below.heap_alloc _ _ _ hk⟩
    have e0 := HM.out
    have hbelow : Below w.heap.size w w' := Below.grown (a4.alloc a4.size _) hgrow (by have := a4.size; simp; omega) (fun j hj => by have := (hlt j hj).1; omega)
    have hrowN : w'.ownsRow (m + 11) 99 2 (.slice p2 (pre ++ [(a, b)]).length cap2) (pre ++ [(a, b)]).length (rowS (pre ++ [(a, b)])) := by
      rw [rowS_snoc]; simpa using hown'
    have hmw : m < w'.heap.size := cell_lt k1
    have HK := Lib.hid hkeep; have HB := Lib.hid hbelow; have HR := Lib.hid hrowN; have HE0 := Lib.hid e0
    clear hown' hgrow hkeep hbelow hrowN hm0 a1 a2 a3 e0 c1 c2
    gi_wp2
    refine ⟨HK.out.setCell (by simp) _, .slice p2 (pre ++ [(a, b)]).length cap2, ?_, ?_, ?_, HB.out.setCell (by have := HE0.out; simp; omega) _⟩
    · rw [World.cell?_setCell_same' _ _ _ (by rw [k1]; rfl)]; simp
    · rw [World.frozen?_setCell]; exact k2
    · exact ownsRow_block HR.out (fun k hk _ => Below.heap_setCell _ _ _ _ (by simp; omega))
  case done =>
    rintro V ⟨v, a1, a2, a3, a4⟩ hK
    gi_wp2
    refine ⟨by simp, .inl ⟨_, _, rfl, run_takeDeferred hK, ?_⟩⟩
    have e := HM.out; have e5 := Z5.out
    refine ⟨_, by simp [results, Tryz.results23, go_sem], ⟨v, rfl, ?_, ?_⟩⟩
    · exact ownsRow_base (ownsRow_diff (Z := fun k => k = W5.heap.size) a3 ((Diff.refl (fun k => k = W5.heap.size) V).putObj (l := W5.heap.size) rfl _) (fun k hk => by omega)) (by omega)
    · exact a4.trans (((Diff.refl (fun k => k = W5.heap.size) V).putObj rfl _).below a4.size (fun k hk => by omega))
end Go.Proofs.YtlhbfgkcalalkaaGreatDoor
