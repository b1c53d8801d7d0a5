/- The contract of token. -/
import Derived.Test.YtlhbfgkcalalkaaDoorWh
set_option linter.unusedVariables false
set_option linter.unusedSimpArgs false
namespace Go.Proofs.YtlhbfgkcalalkaaDoor
open Go.RowKit Go.WideMaps Go.Maps

/-- The token that a text begins with: its kind, its text. -/
def tokR (r : List UInt8) : Option Nat × List UInt8 :=
  match r with
  | [] => (none, [])
  | c :: _ => if cls c.toNat = 2 then (wordK (r.takeWhile (ofCls [2, 3])), r.takeWhile (ofCls [2, 3]))
    else if cls c.toNat = 3 then (numK (r.takeWhile (ofCls [3])), r.takeWhile (ofCls [3]))
    else match signAt r with | some t => (some 4, t) | none => (none, [])

theorem classes2 (w : World) (t : TypeId) : Classes (w.alloc (.cells #[.int .u8 2, .int .u8 3] t)) (.slice (some ⟨w.heap.size, 0, none⟩) 2 2) [2, 3] :=
  ⟨w.heap.size, 2, rfl, by simp, fun k hk => by
    rw [cell_of_row _ _ k _ t (0, 0) (heap_alloc_new w _)]
    match k, hk with
    | 0, _ => rfl
    | 1, _ => rfl⟩
theorem classes1 (w : World) (t : TypeId) (c : Nat) : Classes (w.alloc (.cells #[.int .u8 c] t)) (.slice (some ⟨w.heap.size, 0, none⟩) 1 1) [c] :=
  ⟨w.heap.size, 1, rfl, by simp, fun k hk => by
    rw [cell_of_row _ _ k _ t (0, 0) (heap_alloc_new w _)]
    match k, hk with
    | 0, _ => rfl⟩
theorem pst_text (p : UInt8 → Bool) (s : ByteArray) (at_ : Nat) : s.extract at_ (pst p s.data.toList at_) = mkS ((s.data.toList.drop at_).takeWhile p) := by
  have : (s.extract at_ (pst p s.data.toList at_)).data.toList = (s.data.toList.drop at_).takeWhile p := by
    rw [Lib.extract_data]
    unfold pst
    rw [Nat.add_sub_cancel_left]
    exact (List.prefix_iff_eq_take.1 (List.takeWhile_prefix p)).symm
  rw [← this, mkS_self]
theorem takeWhile_len (p : UInt8 → Bool) (s : ByteArray) (at_ : Nat) (h : s.size ≤ maxLen) : (mkS ((s.data.toList.drop at_).takeWhile p)).size ≤ maxLen := by
  rw [mkS_size]
  have := (List.takeWhile_prefix p (l := s.data.toList.drop at_)).length_le
  have h2 : s.data.toList.length = s.size := by simp
  simp at this; omega

set_option maxRecDepth 100000 in
set_option maxHeartbeats 2000000 in
theorem token_word (g : Value) (s : ByteArray) (at_ : Nat) (w : World) (hs : s.size ≤ 281474976710656) (ha : at_ < s.size) (hg : Gram w g) (hc : cls (s[at_].toNat) = 2) :
    Calls Tryd.prog 22 #[g, .string s, .int .i64 at_] w fun e w' => e = .returned (tokOut (wordK ((s.data.toList.drop at_).takeWhile (ofCls [2, 3]))) (mkS ((s.data.toList.drop at_).takeWhile (ofCls [2, 3]))) at_) ∧ Below w.heap.size w w' := by
  have hml : s.size ≤ maxLen := by unfold maxLen; omega
  have CP : Hid (∀ W : World, Calls Tryd.prog 21 #[.string s, .int .i64 at_, .slice (some ⟨W.heap.size, 0, none⟩) 2 2] (W.alloc (.cells #[.int .u8 2, .int .u8 3] 56)).drew fun e w' => e = .returned (.int .i64 (pst (ofCls [2, 3]) s.data.toList at_)) ∧ (W.alloc (.cells #[.int .u8 2, .int .u8 3] 56)).drew = w') := fun W =>
    past_any s at_ [2, 3] _ _ hml (by omega) (classes2 W _)
  obtain ⟨p, hp⟩ : ∃ p, p = pst (ofCls [2, 3]) s.data.toList at_ := ⟨_, rfl⟩
  have hp1 : at_ ≤ p := by rw [hp]; exact pst_ge _ _ _
  have hp2 : p ≤ s.size := by rw [hp]; have := pst_le (ofCls [2, 3]) s.data.toList at_ (by simp; omega); simpa using this
  have hx : s.extract at_ p = mkS ((s.data.toList.drop at_).takeWhile (ofCls [2, 3])) := by rw [hp]; exact pst_text _ _ _
  rw [← hp] at CP
  obtain ⟨x, hxx⟩ : ∃ x, x = (s.data.toList.drop at_).takeWhile (ofCls [2, 3]) := ⟨_, rfl⟩
  have hxl : (mkS x).size ≤ maxLen := by rw [hxx]; exact takeWhile_len _ _ _ hml
  rw [← hxx] at hx
  rw [← hxx]
  have CW : Hid (∀ W, Below w.heap.size w W → Calls Tryd.prog 45 #[g, .string (s.extract at_ p), .int .i64 at_] W fun e w' => e = .returned (tokOut (wordK x) (mkS x) at_) ∧ Below W.heap.size W w') := fun W hb => by
    have := word_any g (mkS x) at_ W hxl (hg.below hb)
    rw [mkS_list] at this; rw [hx]; exact this
  have hHC := Lib.hid hc
  have hcl : ((cls (s[at_].toNat) : Int) == 2) = true := by rw [hc]; rfl
  clear hp hxx hx hc
  obtain ⟨mb, sb, rfl, _⟩ := hg
  go_enter Tryd.func22, Tryd.ntmps22
  go_wp2_with (go_at_call 40; refine (classOf_any _ _).mono ?_; rintro e w' ⟨rfl, rfl⟩)
  obtain ⟨W0, hW0⟩ : ∃ W0, W0 = (w.alloc (Obj.cells #[Value.map (some mb), Value.slice (some { block := sb, off := 0 }) 22 22] 52)).alloc
    (Obj.cells #[Value.int IntKind.u8 0, Value.string { data := #[] }, Value.int IntKind.i64 0] 36) := ⟨_, rfl⟩
  rw [← hW0]
  have g0 : W0.cell? ⟨w.heap.size, 0, none⟩ = some (.map (some mb)) := by rw [hW0]; simp [go_sem]
  have g1 : W0.cell? ⟨w.heap.size, 1, none⟩ = some (.slice (some ⟨sb, 0, none⟩) 22 22) := by rw [hW0]; simp [go_sem]
  have r0 : ∀ i, i < 3 → ∃ v, W0.cell? ⟨w.heap.size + 1, i, none⟩ = some v := fun i hi => by
    rw [hW0, World.cell?_alloc_at _ _ _ _ (by simp)]
    match i, hi with
    | 0, _ => exact ⟨_, rfl⟩
    | 1, _ => exact ⟨_, rfl⟩
    | 2, _ => exact ⟨_, rfl⟩
  have f0 : ∀ i, i < 3 → W0.frozen? ⟨w.heap.size + 1, i, none⟩ = false := fun i hi => by
    rw [hW0]
    match i, hi with
    | 0, _ => simp [go_sem]
    | 1, _ => simp [go_sem]
    | 2, _ => simp [go_sem]
  have hz : W0.heap.size = w.heap.size + 2 := by rw [hW0]; simp
  have hb0 : Below w.heap.size w W0 := by rw [hW0]; exact ((Below.refl _ _).alloc (Nat.le_refl _) _).alloc (by simp) _
  have KS : Hid (∀ W, Below W0.heap.size W0 W → (W.cell? ⟨w.heap.size, 0, none⟩ = some (.map (some mb)) ∧ W.cell? ⟨w.heap.size, 1, none⟩ = some (.slice (some ⟨sb, 0, none⟩) 22 22) ∧ Below W0.heap.size W0 W)) := fun W hb =>
    ⟨(hb.cell (by show w.heap.size < _; omega)).trans g0, (hb.cell (by show w.heap.size < _; omega)).trans g1, hb⟩
  have CW2 : Hid (∀ W, Below W0.heap.size W0 W → Calls Tryd.prog 45 #[.agg #[.map (some mb), .slice (some ⟨sb, 0, none⟩) 22 22], .string (s.extract at_ p), .int .i64 at_] W fun e w' => e = .returned (.tuple #[.agg #[.int .u8 (tkK (wordK x)), .string (tkT (wordK x) (mkS x)), .int .i64 (tkA (wordK x) at_)], .bool (wordK x).isSome]) ∧ Below W0.heap.size W0 w') := fun W hb =>
    (CW.out W (hb0.trans (hb.mono (by omega)))).mono fun e w' ⟨he, hb'⟩ => ⟨he, hb.trans (hb'.mono hb.size)⟩
  have R0 := Lib.hid r0; have F0 := Lib.hid f0; have HZ := Lib.hid hz; have HB0 := Lib.hid hb0
  clear hW0 r0 f0 hz hb0 CW
  have hl0 : w.heap.size < W0.heap.size := by rw [HZ.out]; omega
  have hl1 : w.heap.size + 1 < W0.heap.size := by rw [HZ.out]; omega
  obtain ⟨v0, q0⟩ := R0.out 0 (by omega)
  obtain ⟨v1, q1⟩ := R0.out 1 (by omega)
  obtain ⟨v2, q2⟩ := R0.out 2 (by omega)
  have z0 := F0.out 0 (by omega)
  have z1 := F0.out 1 (by omega)
  have z2 := F0.out 2 (by omega)
  go_region_with (first | (go_at_call 21; refine (CP.out _).mono ?_; rintro e w' ⟨rfl, rfl⟩) | (go_at_call 45; refine (CW2.out _ ?_).mono ?_; (repeat (first | assumption | exact Below.refl _ _ | refine Below.drew ?_ | refine Below.alloc ?_ (by simp) _)); rintro e w' ⟨rfl, hb⟩; obtain ⟨hcb, hfb⟩ := bcell hb))
  all_goals go_wp2
  all_goals
    have k0 := (hb.cell (p := ⟨w.heap.size + 1, 0, none⟩) (by show w.heap.size + 1 < _; rw [HZ.out]; omega)).trans q0
    have k1 := (hb.cell (p := ⟨w.heap.size + 1, 1, none⟩) (by show w.heap.size + 1 < _; rw [HZ.out]; omega)).trans q1
    have k2 := (hb.cell (p := ⟨w.heap.size + 1, 2, none⟩) (by show w.heap.size + 1 < _; rw [HZ.out]; omega)).trans q2
    refine bodyPost_ret (v := tokOut (wordK x) (mkS x) at_) (by simp [results, Tryd.results22, go_sem, tokOut, k0, k1, k2]) rfl ⟨rfl, ?_⟩
    repeat (refine Below.setCell ?_ (by simp) _)
    exact HB0.out.trans (hb.mono (by rw [HZ.out]; omega))
end Go.Proofs.YtlhbfgkcalalkaaDoor
