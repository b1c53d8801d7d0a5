/- The contract of list. -/
import Derived.Test.YtgbjelglifihnaaDoorOrS
set_option linter.unusedVariables false
set_option linter.unusedSimpArgs false
namespace Go.Proofs.YtgbjelglifihnaaDoor.Or
open Go.RowKit Go.Shelf
attribute [local go_sem] Oper.semAt_some

theorem infoI : (Tryd.prog.info? 3).map (fun i => (i.zero, i.size, i.bytes)) = some (some (.int .i64 0), 1, 8) := by kernel_rfl

set_option maxRecDepth 100000 in
set_option maxHeartbeats 4000000 in
theorem list_any (g : Nat) (w : World) (hg : g < 65536) (hL : TabOk w) :
    Calls Tryd.prog 66 #[.int .u16 g] w fun e w' => ∃ v, e = .returned v ∧ RdI w' v (ints (elems g 16)) ∧ Below w.heap.size w w' := by
  obtain ⟨n, hn⟩ : ∃ n : Nat, 8 ≤ n := ⟨8, Nat.le_refl _⟩
  refine (callsIn_wide (n := n)).1 ?_
  have h1n : 1 ≤ n := by omega
  have h1n2 : 1 ≤ n - 1 - 1 := by omega
  obtain ⟨i0, hi, hz0, hz1, hz2⟩ := info_parts infoI
  refine callsIn_of_wp_marks Tryd.func66 rfl trivial ?_ rfl
  simp only [Tryd.ntmps66, List.size_toArray, List.length_cons, List.length_nil, Nat.reduceAdd, Nat.reduceSub, Array.replicate_succ, Array.replicate_zero, List.push_toArray, List.append_toArray, List.nil_append, List.cons_append]
  gi_wp2_with (refine ⟨trivial, ?_⟩; gi_at_call 117; refine (callsIn_wide.2 (each_any _ _)).mono ?_; rintro e w' ⟨rfl, rfl⟩)
  obtain ⟨m, hm⟩ : ∃ m, m = w.heap.size := ⟨_, rfl⟩
  have htab : 1 < m := by rw [hm]; exact hL.lt
  obtain ⟨W5, hW5⟩ : ∃ W5, W5 = (w.alloc (Obj.cells #[Value.slice none 0 0] 39)).alloc (Obj.cells #[Value.int .u16 g] 84) := ⟨_, rfl⟩
  rw [← hW5, ← hm]
  have z5 : W5.heap.size = m + 2 := by rw [hW5, hm]; simp
  have x5 : W5.cell? ⟨m, 0, none⟩ = some (.slice none 0 0) := by rw [hW5, hm]; simp [go_sem]
  have f5 : W5.frozen? ⟨m, 0, none⟩ = false := by rw [hW5, hm]; simp [go_sem]
  have g5 : W5.cell? ⟨m + 1, 0, none⟩ = some (.int .u16 g) := by rw [hW5, hm]; simp [go_sem]
  have b5 : Below w.heap.size w W5 := by rw [hW5]; exact ((Below.refl _ _).alloc (Nat.le_refl _) _).alloc (by simp) _
  have t5 : TabOk W5 := hL.block (b5.block _ (by rw [← hm]; exact htab))
  have Z5 := Lib.hid z5; have HM := Lib.hid hm
  have hlen : (elems g 16).length ≤ 16 := by have := List.length_filter_le (fun i => g.testBit i) (List.range 16); simpa [elems] using this
  have HLEN := Lib.hid hlen
  clear hW5 z5 hm hL hlen
  refine range_till (F := Fence.wide) (gf := 139) (lb := #[.pointer (some ⟨m + 1, 0, none⟩)]) (n := n) rfl (by omega) rfl trivial (enters_of Tryd.func139 (by kernel_rfl) rfl)
    (each_iter (n - 1) (by omega) (m + 1) g W5 hg g5 t5) (Below.refl _ _) (fun _ => rfl)
    (fun k => k = m + 2 ∨ k = m + 3) ?hZ ?hZ0 ?hZ1 (fun k => k = 1 ∨ k = m + 2 ∨ k = m + 3) ?hY ?hY0 ?hY1
    (fun pre V => ∃ v, V.cell? ⟨m, 0, none⟩ = some v ∧ V.frozen? ⟨m, 0, none⟩ = false ∧ V.ownsRow (m + 4) 3 1 v pre.length ((ints pre).map (Value.int .i64)) ∧ Below w.heap.size w V) ?hI
    (fun _ _ _ => False) (fun _ _ _ _ h _ => h) ⟨_, x5, f5, World.ownsRow_nil _ _ _ _, b5⟩
    (fun pre x a' V => ∃ v, (V.cell? ⟨m, 0, none⟩ = some v ∧ V.frozen? ⟨m, 0, none⟩ = false ∧ V.ownsRow (m + 4) 3 1 v pre.length ((ints pre).map (Value.int .i64)) ∧ Below w.heap.size w V) ∧
      a' = { tmps := #[.int .u16 g, undef, .slice none 0 0, .pointer (some ⟨m, 0, none⟩), .int .i64 x, .int .u16 g, .func (.func 139) #[] #[.pointer (some ⟨m + 1, 0, none⟩)], .int .i64 x, undef, undef, undef, undef, undef], defers := [] })
    ?hAx ?assign ?body ?hYb ?done ?stop
  case hZ => rintro W1 h1 k hk; exact hk.elim
  case hZ0 => have := Z5.out; omega
  case hZ1 => have := Z5.out; omega
  case hY => rintro W1 h1 k hk; have := Z5.out; have hk' : k = 1 := hk; exact ⟨.inl hk', by omega⟩
  case hY0 => have := Z5.out; omega
  case hY1 => have := Z5.out; omega
  case hYb => rintro W1 h1 k hk; have := Z5.out; rcases hk with hk | hk | hk
              · exact .inl hk
              · exact .inr (by omega)
              · exact .inr (by omega)
  case hI =>
    rintro pre A B ⟨v, a1, a2, a3, a4⟩ hd
    have e := HM.out
    exact ⟨v, cell_diff a1 hd (by omega), frozen_diff a1 a2 hd (by omega), ownsRow_diff a3 hd (fun k hk => by omega), a4.trans (hd.below a4.size (by omega))⟩
  case hAx =>
    rintro pre x a' A B ⟨v, ⟨a1, a2, a3, a4⟩, ha⟩ hd
    have e := HM.out
    exact ⟨v, ⟨cell_diff a1 hd (by omega), frozen_diff a1 a2 hd (by omega), ownsRow_diff a3 hd (fun k hk => by omega), a4.trans (hd.below a4.size (by omega))⟩, ha⟩
  case assign =>
    rintro l' pre x V K hpre ⟨v, a1, a2, a3, a4⟩ hbnd hK
    gi_wp2
    exact hK _ _ (Keep.refl _ _) ⟨v, ⟨a1, a2, a3, a4⟩, rfl⟩
  case body =>
    rintro l' pre x a' V hpre ⟨v, ⟨a1, a2, a3, a4⟩, rfl⟩ hbnd
    have hq2 : m + 4 ≤ V.heap.size := hbnd (m + 3) (by omega)
    have hpl : pre.length + 1 ≤ 16 := by
      have h1 := hpre.length_le
      simp at h1; have := HLEN.out; omega
    have HLT := Lib.hid a3.lt
    obtain ⟨ptr, cap, rfl⟩ := ownsRow_slice a3
    gi_wp2_with (gi_at_builtin; refine wpListIn_append_own _ rfl _ _ 39 rfl (m + 4) 3 i0 (.int .i64 0) 1 8 Tryd.underlying39 hi hz0 hz1 hz2 rfl (by decide) _ _ _ rfl (a3.alloc _) ⟨V.heap.size, 0, none⟩ 1 1 [.int .i64 x] rfl rfl ?c1 (by simp [Value.oneCell']) (by unfold maxLen; omega) (by omega) (by simp; omega) ?_)
    case c1 => intro j u hj; match j, hj with | 0, hj => (simp at hj; subst hj; simp [Addr.add])
    intro v' w' hown' hgrow _
    obtain ⟨p2, cap2, rfl⟩ := ownsRow_slice hown'
    have hlt := HLT.out
    have hbl : ∀ k, k < m + 4 → w'.heap[k]? = V.heap[k]? := fun k hk => by
      rw [hgrow.block k (by simp; omega) (fun e => by have := (hlt _ e.symm).1; omega)]
      exact Below.heap_alloc _ _ _ (by omega)
    have k1 : w'.cell? ⟨m, 0, none⟩ = some (.slice ptr pre.length cap) := (World.cell?_of_block (w := V) (hbl m (by omega))).trans a1
    have k2 : w'.frozen? ⟨m, 0, none⟩ = false := (World.frozen?_of_block (w := V) (hbl m (by omega))).trans a2
    have hkeep : Keep (fun k => k = 1 ∨ k = m + 2 ∨ k = m + 3) V w' := ⟨Nat.le_trans (by simp) hgrow.size, fun k hk hz => hbl k (by omega)⟩
    have e0 := HM.out
    have hbelow : Below w.heap.size w w' := Below.grown (a4.alloc a4.size _) hgrow (by have := a4.size; simp; omega) (fun j hj => by have := (hlt j hj).1; omega)
    have hrowN : w'.ownsRow (m + 4) 3 1 (.slice p2 (pre ++ [x]).length cap2) (pre ++ [x]).length ((ints (pre ++ [x])).map (Value.int .i64)) := by
      simpa [ints] using hown'
    have hmw : m < w'.heap.size := cell_lt k1
    have HK := Lib.hid hkeep; have HB := Lib.hid hbelow; have HR := Lib.hid hrowN; have HE0 := Lib.hid e0; have HT := Lib.hid htab
    clear hown' hgrow hkeep hbelow hrowN hbl a1 a2 a3 e0 htab
    gi_wp2
    refine ⟨HK.out.setCell (by have := HT.out; simp; omega) _, .slice p2 (pre ++ [x]).length cap2, ?_, ?_, ?_, HB.out.setCell (by have := HE0.out; simp; omega) _⟩
    · rw [World.cell?_setCell_same' _ _ _ (by rw [k1]; rfl)]; simp
    · rw [World.frozen?_setCell]; exact k2
    · exact ownsRow_block HR.out (fun k hk _ => Below.heap_setCell _ _ _ _ (by simp; omega))
  case done =>
    rintro V ⟨v, a1, a2, a3, a4⟩ hK
    have hR : RdI V v (ints (elems g 16)) := rd_own (by rw [List.length_map, ints_length]; exact a3) (by rw [List.length_map, ints_length]; have := HLEN.out; omega)
    obtain ⟨ptr, cap, rfl⟩ := ownsRow_slice a3
    have HR := Lib.hid hR
    have HA3 := Lib.hid a3
    clear hR a3
    gi_wp2
    refine ⟨by simp, .inl ⟨_, _, rfl, run_takeDeferred hK, ?_⟩⟩
    have e := HM.out; have e5 := Z5.out
    refine ⟨.slice ptr (elems g 16).length cap, by simp [results, Tryd.results66, go_sem], ⟨_, rfl, ?_, ?_⟩⟩
    · refine rd_own (base := m + 4) (e := 3) ?_ (by rw [List.length_map, ints_length]; have := HLEN.out; omega)
      rw [List.length_map, ints_length]
      exact ownsRow_diff (Z := fun k => k = W5.heap.size) HA3.out ((Diff.refl (fun k => k = W5.heap.size) V).putObj (l := W5.heap.size) rfl _) (fun k hk => by omega)
    · exact a4.trans (((Diff.refl (fun k => k = W5.heap.size) V).putObj rfl _).below a4.size (fun k hk => by omega))
  case stop => rintro c pre x V hpre h; exact h.elim
end Go.Proofs.YtgbjelglifihnaaDoor.Or
