/- slices.Clone of strings and of bools. -/
import Derived.Test.YtfhnigpjmljhbaaDoorOrDb
import Derived.Lib.SliceRun
set_option linter.unusedVariables false
set_option linter.unusedSimpArgs false
namespace Go.Proofs.YtfhnigpjmljhbaaDoor.Or
open Go.RowKit Go.Shelf

set_option maxRecDepth 100000 in
set_option maxHeartbeats 2000000 in
theorem cloneS_any (v : Value) (vs : List Value) (w : World) (h : Rd w v vs) (h1 : ∀ y ∈ vs, y.oneCell' = true) (hn : vs.length ≤ 1000) :
    Calls Tryd.prog 40 #[v] w fun e w' => ∃ v', e = .returned v' ∧ w'.ownsRow w.heap.size 9 1 v' vs.length vs ∧ Below w.heap.size w w' := by
  obtain ⟨i0, hi, hz0, hz1, hz2⟩ := info_parts infoStr
  have q22 : ∀ (w : World) (a : Option Addr) (n c n' c' : Nat), (binOp .eql 22 (.slice a n c) (.slice none n' c')).run Tryd.prog w = .ok (.bool a.isNone) w := fun w a n c n' c' => Lib.run_eql_slice_nil w _ _ a n c n' c' Tryd.underlying22
  obtain ⟨p, cap, rfl, hl, h0⟩ := h
  cases p with
  | none =>
    have hvs : vs = [] := by
      rcases h0 with h0 | ⟨bl, off, e, _⟩
      · exact List.length_eq_zero_iff.1 h0
      · cases e
    have HV := Lib.hid hvs
    obtain ⟨n, hn'⟩ : ∃ n, n = vs.length := ⟨_, rfl⟩
    rw [← hn']
    have HN := Lib.hid hn'
    clear hvs h0 hl hn hn' h1
    go_enter Tryd.func40, Tryd.ntmps40
    go_wp2
    go_ret
    exact ⟨_, rfl, by have e := HN.out; rw [HV.out] at e ⊢; rw [e]; exact ⟨rfl, .inl ⟨rfl, rfl⟩⟩, Below.refl _ _⟩
  | some ad =>
    have hc : ∀ j u, vs[j]? = some u → ∃ b o, ad.add j = ⟨b, o, none⟩ ∧ w.cell? ⟨b, o, none⟩ = some u := by
      intro j u hj
      obtain ⟨hj1, hj2⟩ := List.getElem?_eq_some_iff.1 hj
      rcases h0 with h0 | ⟨bl, off, e, hc⟩
      · omega
      · simp only [Option.some.injEq] at e
        subst e
        have hadd : (⟨bl, off, none⟩ : Addr).add j = ⟨bl, off + j, none⟩ := by unfold Addr.add; split <;> simp_all
        exact ⟨bl, off + j, hadd, by rw [hc j hj1, hj2]⟩
    have HC := Lib.hid hc
    have H1 := Lib.hid h1
    obtain ⟨n, hn'⟩ : ∃ n, n = vs.length := ⟨_, rfl⟩
    have HN := Lib.hid hn'
    rw [← hn'] at hn ⊢
    clear hc h0 hl hn' h1
    go_enter Tryd.func40, Tryd.ntmps40
    go_wp2_with (at_builtin; refine wpList_append_own _ rfl _ _ 22 rfl w.heap.size 9 i0 _ 1 16 Tryd.underlying22 hi hz0 hz1 hz2 rfl (by decide) _ _ _ rfl (World.ownsRow_made w #[] 0 (Nat.le_refl _) (Nat.zero_le _) (by simp)) ad n cap vs rfl ?qc1 ?qc2 ?qc3 ?qc4 ?qc5 ?qc6 ?_)
    case qc1 => have := HN.out; omega
    case qc2 =>
      intro j u hj
      obtain ⟨b', o', e, this⟩ := HC.out j u hj
      rw [e, World.cell?_alloc_past _ _ _ (cell_lt this)]; exact this
    case qc3 => exact H1.out
    case qc4 => unfold maxLen; omega
    case qc5 => omega
    case qc6 => simp
    intro v' w1 hown hgrow hnil
    go_wp2
    go_ret
    refine ⟨v', rfl, ?_, ?_⟩
    · simpa using hown
    · exact ((Below.refl _ w).alloc (Nat.le_refl _) _).grown hgrow (by simp) (by intro k hk; simp [Value.ownBlock] at hk; omega)

set_option maxRecDepth 100000 in
set_option maxHeartbeats 2000000 in
theorem cloneB_any (v : Value) (vs : List Value) (w : World) (h : Rd w v vs) (h1 : ∀ y ∈ vs, y.oneCell' = true) (hn : vs.length ≤ 1000) :
    Calls Tryd.prog 41 #[v] w fun e w' => ∃ v', e = .returned v' ∧ w'.ownsRow w.heap.size 4 1 v' vs.length vs ∧ Below w.heap.size w w' := by
  obtain ⟨i0, hi, hz0, hz1, hz2⟩ := info_parts infoBool
  have q22 : ∀ (w : World) (a : Option Addr) (n c n' c' : Nat), (binOp .eql 24 (.slice a n c) (.slice none n' c')).run Tryd.prog w = .ok (.bool a.isNone) w := fun w a n c n' c' => Lib.run_eql_slice_nil w _ _ a n c n' c' Tryd.underlying24
  obtain ⟨p, cap, rfl, hl, h0⟩ := h
  cases p with
  | none =>
    have hvs : vs = [] := by
      rcases h0 with h0 | ⟨bl, off, e, _⟩
      · exact List.length_eq_zero_iff.1 h0
      · cases e
    have HV := Lib.hid hvs
    obtain ⟨n, hn'⟩ : ∃ n, n = vs.length := ⟨_, rfl⟩
    rw [← hn']
    have HN := Lib.hid hn'
    clear hvs h0 hl hn hn' h1
    go_enter Tryd.func41, Tryd.ntmps41
    go_wp2
    go_ret
    exact ⟨_, rfl, by have e := HN.out; rw [HV.out] at e ⊢; rw [e]; exact ⟨rfl, .inl ⟨rfl, rfl⟩⟩, Below.refl _ _⟩
  | some ad =>
    have hc : ∀ j u, vs[j]? = some u → ∃ b o, ad.add j = ⟨b, o, none⟩ ∧ w.cell? ⟨b, o, none⟩ = some u := by
      intro j u hj
      obtain ⟨hj1, hj2⟩ := List.getElem?_eq_some_iff.1 hj
      rcases h0 with h0 | ⟨bl, off, e, hc⟩
      · omega
      · simp only [Option.some.injEq] at e
        subst e
        have hadd : (⟨bl, off, none⟩ : Addr).add j = ⟨bl, off + j, none⟩ := by unfold Addr.add; split <;> simp_all
        exact ⟨bl, off + j, hadd, by rw [hc j hj1, hj2]⟩
    have HC := Lib.hid hc
    have H1 := Lib.hid h1
    obtain ⟨n, hn'⟩ : ∃ n, n = vs.length := ⟨_, rfl⟩
    have HN := Lib.hid hn'
    rw [← hn'] at hn ⊢
    clear hc h0 hl hn' h1
    go_enter Tryd.func41, Tryd.ntmps41
    go_wp2_with (at_builtin; refine wpList_append_own _ rfl _ _ 24 rfl w.heap.size 4 i0 _ 1 1 Tryd.underlying24 hi hz0 hz1 hz2 rfl (by decide) _ _ _ rfl (World.ownsRow_made w #[] 0 (Nat.le_refl _) (Nat.zero_le _) (by simp)) ad n cap vs rfl ?qc1 ?qc2 ?qc3 ?qc4 ?qc5 ?qc6 ?_)
    case qc1 => have := HN.out; omega
    case qc2 =>
      intro j u hj
      obtain ⟨b', o', e, this⟩ := HC.out j u hj
      rw [e, World.cell?_alloc_past _ _ _ (cell_lt this)]; exact this
    case qc3 => exact H1.out
    case qc4 => unfold maxLen; omega
    case qc5 => omega
    case qc6 => simp
    intro v' w1 hown hgrow hnil
    go_wp2
    go_ret
    refine ⟨v', rfl, ?_, ?_⟩
    · simpa using hown
    · exact ((Below.refl _ w).alloc (Nat.le_refl _) _).grown hgrow (by simp) (by intro k hk; simp [Value.ownBlock] at hk; omega)
end Go.Proofs.YtfhnigpjmljhbaaDoor.Or
