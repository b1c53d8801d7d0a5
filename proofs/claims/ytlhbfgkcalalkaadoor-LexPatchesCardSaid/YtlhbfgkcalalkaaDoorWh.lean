/- Contracts of number and token. -/
import Derived.Test.YtlhbfgkcalalkaaDoorWg
import Derived.Test.YtlhbfgkcalalkaaDoorMa
import Derived.Deep.RegionHeld3
import Derived.Deep.RegionWith
import Derived.WideLaws
set_option linter.unusedVariables false
namespace Go.Proofs.YtlhbfgkcalalkaaDoor
open Go.RowKit Go.WideMaps Go.Maps

theorem bcell {W w1 : World} (hb : Below W.heap.size W w1) : (∀ b o, b < W.heap.size → w1.cell? ⟨b, o, none⟩ = W.cell? ⟨b, o, none⟩) ∧ (∀ b o, b < W.heap.size → w1.frozen? ⟨b, o, none⟩ = W.frozen? ⟨b, o, none⟩) :=
  ⟨fun b o h => hb.cell (p := ⟨b, o, none⟩) h, fun b o h => hb.frozen (p := ⟨b, o, none⟩) h⟩

/-- The variable strconv.ErrRange holds an error. -/
def ErrOk (w : World) : Prop := ∃ te pe, w.cell? ⟨2, 0, none⟩ = some (.iface te pe)
theorem ErrOk.below {w w' : World} (h : ErrOk w) (hb : Below w.heap.size w w') : ErrOk w' := by
  obtain ⟨te, pe, hc⟩ := h
  exact ⟨te, pe, (hb.cell (cell_lt hc)).trans hc⟩

/-- How strconv.Atoi ends at digits. -/
def AtoiEnd (l : List UInt8) (w : World) (e : Ending) (w' : World) : Prop :=
  ((e = .returned (.tuple #[.int .i64 (numV 0 l), .nilIface])) ∨ (1000000000 < numV 0 l ∧ ∃ n te pe, e = .returned (.tuple #[.int .i64 n, .iface te pe]))) ∧ Below w.heap.size w w'
theorem atoi_any (s : ByteArray) (w : World) (hs : s.size ≤ 281474976710656) (hd : Dig s.data.toList) (h0 : s.data.toList ≠ []) (he : ErrOk w) :
    Calls Tryd.prog 56 #[.string s] w (AtoiEnd s.data.toList w) := by
  rcases atoi_dig _ hd h0 with h | ⟨h, hv⟩
  · refine (Tryd.strconv_Atoi_ok s (by omega) _ h w).mono ?_
    rintro e w' ⟨rfl, hw⟩
    refine ⟨.inl rfl, ?_⟩
    rcases hw with rfl | ⟨t, rfl⟩
    · exact Below.refl _ _
    · exact Lib.bytesWorld_below _ _ _
  · obtain ⟨te, pe, hc⟩ := he
    refine (Tryd.strconv_Atoi_range s hs h _ w hc (.inr ⟨te, pe, rfl⟩)).mono ?_
    rintro e w' ⟨N, rfl, _, _, hb⟩
    exact ⟨.inr ⟨by omega, _, _, _, rfl⟩, hb⟩

theorem errT : Tryd.prog.underlying 69 = some (.interface (Tryd.prog.methodsAt 69)) := by kernel_rfl
def numK (l : List UInt8) : Option Nat := if isNum l then some 2 else none

set_option maxRecDepth 100000 in
set_option maxHeartbeats 800000 in
theorem number_any (s : ByteArray) (at_ : Int) (w : World) (hs : s.size ≤ 281474976710656) (hd : Dig s.data.toList) (h0 : s.data.toList ≠ []) (he : ErrOk w) :
    Calls Tryd.prog 46 #[.string s, .int .i64 at_] w fun e w' => e = .returned (tokOut (numK s.data.toList) s at_) ∧ Below w.heap.size w w' := by
  have C : Hid (∀ o, Calls Tryd.prog 56 #[.string s] (w.alloc o) (AtoiEnd s.data.toList (w.alloc o))) := fun o =>
    atoi_any s _ hs hd h0 (he.below ((Below.refl _ _).alloc (Nat.le_refl _) _))
  have hnum := num_iff _ hd h0
  have hpos : 0 < s.size := by
    have h5 : s.data.toList.length ≠ 0 := fun e => h0 (List.length_eq_zero_iff.1 e)
    have h6 : s.data.toList.length = s.size := by simp
    omega
  have hhd : s.data.toList.head? = some s[0] := by
    rw [List.head?_eq_getElem?, List.getElem?_eq_getElem (by simpa using hpos)]; rfl
  rw [hhd] at hnum
  have HN := Lib.hid hnum; clear hnum hhd he hd h0
  have hni : ∀ (w : World) (t : TypeId) (x : Value), (binOp .neq 69 (.iface t x) .nilIface).run Tryd.prog w = .ok (.bool true) w := fun w t x => run_neq_held_nil (w := w) (t := 69) (u := t) (x := x) errT
  have hnn : ∀ w : World, (binOp .neq 69 .nilIface .nilIface).run Tryd.prog w = .ok (.bool false) w := fun _ => by kernel_rfl
  go_enter Tryd.func46, Tryd.ntmps46
  go_wp2_with fail
  refine (C.out _).mono ?_
  rintro e w1 ⟨hcase, hb⟩
  obtain ⟨hc1, hf1⟩ := bcell hb
  rcases hcase with rfl | ⟨hbig, n, te, pe, rfl⟩
  · have yes : isNum s.data.toList = true → Hid (tokOut (numK s.data.toList) s at_ = .tuple #[.agg #[.int .u8 2, .string s, .int .i64 at_], .bool true]) := fun h => by
      show _ = _; unfold numK; rw [if_pos h]; rfl
    have no : isNum s.data.toList = false → Hid (tokOut (numK s.data.toList) s at_ = .tuple #[.agg #[.int .u8 0, .string ⟨#[]⟩, .int .i64 0], .bool false]) := fun h => by
      show _ = _; unfold numK; rw [if_neg (by rw [h]; decide)]; rfl
    have fin : Below w.heap.size w w1 := ((Below.refl _ _).alloc (Nat.le_refl _) _).trans (hb.mono (by simp))
    by_cases hbig : 1000000000 < numV 0 s.data.toList
    · have hr := no (by rw [HN.out, decide_eq_false (by omega)]; rfl)
      clear yes no
      go_wp2
      refine bodyPost_ret (v := .tuple #[.agg #[.int .u8 0, .string ⟨#[]⟩, .int .i64 0], .bool false]) (by simp [results, Tryd.results46, go_sem, hc1]) rfl ⟨by rw [hr.out], ?_⟩
      repeat (refine Below.setCell ?_ (by simp) _)
      exact fin
    · by_cases hz : s[0].toNat = 48
      · have hz8 : s[0] = 48 := UInt8.toNat_inj.1 hz
        by_cases h1 : s.toList = [48]
        · have h1' : s.data.toList = [48] := by rw [← ByteArray.toList_eq]; exact h1
          have hr := yes (by rw [HN.out, decide_eq_true (by omega), h1']; simp)
          clear yes no h1' hz8
          go_wp2
          refine bodyPost_ret (v := .tuple #[.agg #[.int .u8 2, .string s, .int .i64 at_], .bool true]) (by simp [results, Tryd.results46, go_sem, hc1]) rfl ⟨by rw [hr.out], ?_⟩
          repeat (refine Below.setCell ?_ (by simp) _)
          exact fin
        · have h1' : ¬ s.data.toList = [48] := by rw [← ByteArray.toList_eq]; exact h1
          have hr := no (by rw [HN.out, hz8, decide_eq_true (show s.data.toList ≠ [48] from h1')]; simp)
          have hb2 : (s.toList == [48]) = false := by simpa using h1
          clear yes no h1' hz8 h1
          go_wp2
          refine bodyPost_ret (v := .tuple #[.agg #[.int .u8 0, .string ⟨#[]⟩, .int .i64 0], .bool false]) (by simp [results, Tryd.results46, go_sem, hc1]) rfl ⟨by rw [hr.out], ?_⟩
          repeat (refine Below.setCell ?_ (by simp) _)
          exact fin
      · have hz8 : ¬ s[0] = 48 := fun e => hz (by rw [e]; rfl)
        have hr := yes (by rw [HN.out, decide_eq_true (by omega)]; simp [hz8])
        clear yes no hz8
        go_wp2
        refine bodyPost_ret (v := .tuple #[.agg #[.int .u8 2, .string s, .int .i64 at_], .bool true]) (by simp [results, Tryd.results46, go_sem, hc1]) rfl ⟨by rw [hr.out], ?_⟩
        repeat (refine Below.setCell ?_ (by simp) _)
        exact fin
  · have hr : Hid (tokOut (numK s.data.toList) s at_ = .tuple #[.agg #[.int .u8 0, .string ⟨#[]⟩, .int .i64 0], .bool false]) := by
      show _ = _; unfold numK; rw [if_neg (by rw [HN.out, decide_eq_false (by omega)]; simp)]; rfl
    have fin : Below w.heap.size w w1 := ((Below.refl _ _).alloc (Nat.le_refl _) _).trans (hb.mono (by simp))
    go_wp2
    refine bodyPost_ret (v := .tuple #[.agg #[.int .u8 0, .string ⟨#[]⟩, .int .i64 0], .bool false]) (by simp [results, Tryd.results46, go_sem, hc1]) rfl ⟨by rw [hr.out], ?_⟩
    repeat (refine Below.setCell ?_ (by simp) _)
    exact fin
end Go.Proofs.YtlhbfgkcalalkaaDoor
