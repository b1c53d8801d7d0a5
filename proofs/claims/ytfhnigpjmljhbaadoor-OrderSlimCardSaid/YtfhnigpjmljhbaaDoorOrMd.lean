/- What OrderSlim calls, at a table that is a lattice and at its slim table. -/
import Derived.Test.YtfhnigpjmljhbaaDoorOrMc
import Derived.Test.YtfhnigpjmljhbaaDoorOrGc
import Derived.Test.YtfhnigpjmljhbaaDoorOrFf
import Derived.Test.YtfhnigpjmljhbaaDoorOrBk
set_option linter.unusedVariables false
set_option linter.unusedSimpArgs false
namespace Go.Proofs.YtfhnigpjmljhbaaDoor.Or
open Go.RowKit Go.Shelf

/-- What OrderSlim calls: t is a table, s its slim one, both of n elements and with one name; U is what is above each. -/
structure SlC (w : World) (t s : Tab) (nm : ByteArray) (n : Nat) (U : Nat → List Int) : Prop where
  awake : ∀ W, Below w.heap.size w W → Calls Tryd.prog 9 #[] W fun e w' => e = .returned (.bool true) ∧ Below W.heap.size W w'
  copyT : ∀ W p1 c1 p2 c2 p3 c3, TabIn W (.slice p1 n c1) (.slice p2 n c2) (.slice p3 n c3) t → Calls Tryd.prog 11 #[.agg #[.string nm, .slice p1 n c1, .slice p2 n c2, .slice p3 n c3]] W fun e w' =>
    ∃ q1 d1 q2 d2 q3 d3, e = .returned (.agg #[.string nm, .slice q1 n d1, .slice q2 n d2, .slice q3 n d3]) ∧ TabIn w' (.slice q1 n d1) (.slice q2 n d2) (.slice q3 n d3) t ∧ Below W.heap.size W w'
  copyS : ∀ W p1 c1 p2 c2 p3 c3, TabIn W (.slice p1 n c1) (.slice p2 n c2) (.slice p3 n c3) s → Calls Tryd.prog 11 #[.agg #[.string nm, .slice p1 n c1, .slice p2 n c2, .slice p3 n c3]] W fun e w' =>
    ∃ q1 d1 g d2 q3 d3 cs, e = .returned (.agg #[.string nm, .slice q1 n d1, .slice (some ⟨g, 0, none⟩) n d2, .slice q3 n d3]) ∧ TabIn w' (.slice q1 n d1) (.slice (some ⟨g, 0, none⟩) n d2) (.slice q3 n d3) s ∧ W.heap.size ≤ g ∧ w'.heap[g]? = some (.cells cs 35 (0, 0)) ∧ Below W.heap.size W w'
  slimT : ∀ W p1 c1 p2 c2 p3 c3, Below w.heap.size w W → TabIn W (.slice p1 n c1) (.slice p2 n c2) (.slice p3 n c3) t → Calls Tryd.prog 10 #[.agg #[.string nm, .slice p1 n c1, .slice p2 n c2, .slice p3 n c3]] W fun e w' =>
    ∃ q1 d1 q2 d2 q3 d3, e = .returned (.tuple #[.agg #[.string nm, .slice q1 n d1, .slice q2 n d2, .slice q3 n d3], .int .i64 0]) ∧ TabIn w' (.slice q1 n d1) (.slice q2 n d2) (.slice q3 n d3) s ∧ Below W.heap.size W w'
  slimS : ∀ W p1 c1 p2 c2 p3 c3, Below w.heap.size w W → TabIn W (.slice p1 n c1) (.slice p2 n c2) (.slice p3 n c3) s → Calls Tryd.prog 10 #[.agg #[.string nm, .slice p1 n c1, .slice p2 n c2, .slice p3 n c3]] W fun e w' =>
    ∃ q1 d1 q2 d2 q3 d3, e = .returned (.tuple #[.agg #[.string nm, .slice q1 n d1, .slice q2 n d2, .slice q3 n d3], .int .i64 0]) ∧ TabIn w' (.slice q1 n d1) (.slice q2 n d2) (.slice q3 n d3) s ∧ Below W.heap.size W w'
  isLat : ∀ W p1 c1 p2 c2 p3 c3, TabIn W (.slice p1 n c1) (.slice p2 n c2) (.slice p3 n c3) s → Calls Tryd.prog 12 #[.agg #[.string nm, .slice p1 n c1, .slice p2 n c2, .slice p3 n c3]] W fun e w' => e = .returned (.int .i64 0) ∧ Below W.heap.size W w'
  same : ∀ W p1 c1 p2 c2 p3 c3 q1 d1 q2 d2 q3 d3, TabIn W (.slice p1 n c1) (.slice p2 n c2) (.slice p3 n c3) s → TabIn W (.slice q1 n d1) (.slice q2 n d2) (.slice q3 n d3) s → Calls Tryd.prog 13 #[.agg #[.string nm, .slice p1 n c1, .slice p2 n c2, .slice p3 n c3], .agg #[.string nm, .slice q1 n d1, .slice q2 n d2, .slice q3 n d3]] W fun e w' => e = .returned (.bool true) ∧ Below W.heap.size W w'
  reachT : ∀ W p1 c1 p2 c2 p3 c3 (k : Nat), Below w.heap.size w W → k < n → TabIn W (.slice p1 n c1) (.slice p2 n c2) (.slice p3 n c3) t → Calls Tryd.prog 14 #[.agg #[.string nm, .slice p1 n c1, .slice p2 n c2, .slice p3 n c3], .int .i64 k] W fun e w' => ∃ v, e = .returned (.tuple #[v, .int .i64 0]) ∧ RdI w' v (U k) ∧ Below W.heap.size W w'
  reachS : ∀ W p1 c1 p2 c2 p3 c3 (k : Nat), Below w.heap.size w W → k < n → TabIn W (.slice p1 n c1) (.slice p2 n c2) (.slice p3 n c3) s → Calls Tryd.prog 14 #[.agg #[.string nm, .slice p1 n c1, .slice p2 n c2, .slice p3 n c3], .int .i64 k] W fun e w' => ∃ v, e = .returned (.tuple #[v, .int .i64 0]) ∧ RdI w' v (U k) ∧ Below W.heap.size W w'
  reachC : ∀ W p1 c1 p2 c2 p3 c3 (k i : Nat), Below w.heap.size w W → k < n → i < (s.above.getD k []).length → TabIn W (.slice p1 n c1) (.slice p2 n c2) (.slice p3 n c3) (cutT s k i) → Calls Tryd.prog 14 #[.agg #[.string nm, .slice p1 n c1, .slice p2 n c2, .slice p3 n c3], .int .i64 k] W fun e w' => ∃ v L, e = .returned (.tuple #[v, .int .i64 0]) ∧ RdI w' v L ∧ (L == U k) = false ∧ Below W.heap.size W w'
  ints : ∀ W u v a c, RdI W u a → RdI W v c → Calls Tryd.prog 15 #[u, v] W fun e w' => e = .returned (.bool (a == c)) ∧ Below W.heap.size W w'
  len : 1 ≤ n ∧ n ≤ 12 ∧ t.elems.length = n ∧ t.wrong.length = n ∧ s.above.length = n ∧ s.elems = t.elems ∧ s.wrong = t.wrong ∧ ∀ k, k < n → (s.above.getD k []).length ≤ 12
theorem tab_form {W : World} {xe xa xw : Value} {s : Tab} {n : Nat} (h : TabIn W xe xa xw s) (h1 : s.elems.length = n) (h2 : s.above.length = n) (h3 : s.wrong.length = n) : ∃ p1 c1 p2 c2 p3 c3, xe = .slice p1 n c1 ∧ xa = .slice p2 n c2 ∧ xw = .slice p3 n c3 := by
  obtain ⟨p1, c1, e1⟩ := h.e.form
  obtain ⟨p2, c2, e2⟩ := h.a.form
  obtain ⟨p3, c3, e3⟩ := h.w.form
  exact ⟨p1, c1, p2, c2, p3, c3, by rw [e1, h1], by rw [e2, h2], by rw [e3, h3]⟩
theorem tabE_one {t : Tab} (h : frmF t = true) {k : Nat} (hk : k < t.n) : tabE t [(k : Int)] = 0 := by
  have := tabE_in h hk hk
  unfold tabE at this ⊢
  rw [h] at this ⊢
  simp only [if_true] at this ⊢
  split at this
  · rename_i h2
    simp only [List.all_cons, List.all_nil, Bool.and_true, Bool.and_self] at h2 ⊢
    rw [h2]; rfl
  · cases this
theorem sl_calls (HJ : JoinOk) (t : Tab) (w : World) (hnm : t.name.length ≤ 281474976710656) (hLd : LaidOk w) (hth : thinF t = true) (hl : latE t [] = 0) :
    SlC w t (slimT t) (mkS t.name) t.elems.length (fun k => ints (ups t.R t.n [k])) := by
  obtain ⟨hf, hlat, _⟩ := latE_zero hl
  have hS := thin_small hth
  obtain ⟨t1, t2, t3, t4⟩ := thin_lens hth
  obtain ⟨f1, f2, f3, f4⟩ := frm_len hf
  have hsl := latE_slim hl
  have hsf := slim_frm hf
  have hsS : Small (slimT t) := frm_small hsf
  have hF1 : slimF t = slimT t := by unfold slimF; rw [if_pos hl]
  have hF2 : slimF (slimT t) = slimT t := by unfold slimF; rw [if_pos hsl]; exact slim_slim hl
  have s1 : (slimT t).elems.length = t.elems.length := rfl
  have s2 : (slimT t).above.length = t.elems.length := (slim_lens hf).1
  have s3 : (slimT t).wrong.length = t.elems.length := f4
  have hrow : ∀ k, k < t.elems.length → ((slimT t).above.getD k []).length ≤ 12 := fun k hk => by
    rw [(slim_lens hf).2.1 k hk, ints_length]
    have := (slim_lens hf).2.2 k
    have : t.n = t.elems.length := rfl
    omega
  refine ⟨fun W h => awake_any HJ W (hLd.below h), ?_, ?_, ?_, ?_, ?_, ?_, ?_, ?_, ?_, ?_, ⟨f1, f2, rfl, f4, s2, rfl, rfl, hrow⟩⟩
  · intro W p1 c1 p2 c2 p3 c3 h
    refine (copy_any t _ _ _ W h t1 t2 t3 t4).mono ?_
    rintro e w' ⟨xe, xa, xw, rfl, h2, hb⟩
    obtain ⟨q1, d1, q2, d2, q3, d3, rfl, rfl, rfl⟩ := tab_form h2 rfl f3 f4
    exact ⟨q1, d1, q2, d2, q3, d3, rfl, h2, hb⟩
  · intro W p1 c1 p2 c2 p3 c3 h
    refine (copy_own (slimT t) _ _ _ W h (by omega) (by omega) (by omega) (frm_rows hsf)).mono ?_
    rintro e w' ⟨xe, xa, xw, rfl, h2, hb, ho⟩
    obtain ⟨q1, d1, q2, d2, q3, d3, rfl, rfl, rfl⟩ := tab_form h2 s1 s2 s3
    obtain ⟨xs, hr⟩ := ho.row
    rcases hr.2 with ⟨_, h0⟩ | ⟨g, cap, cs, h3, h4, h5, h6, h7⟩
    · omega
    · simp only [Value.slice.injEq] at h3
      obtain ⟨rfl, _, rfl⟩ := h3
      exact ⟨q1, d1, g, d2, q3, d3, cs, rfl, h2, h4, h5, hb⟩
  · intro W p1 c1 p2 c2 p3 c3 hB h
    refine (Slim_any t _ _ _ W h hS (hLd.below hB)).mono ?_
    rintro e w' ⟨xe, xa, xw, rfl, h2, hb⟩
    rw [hF1] at h2
    rw [hF1, hl]
    obtain ⟨q1, d1, q2, d2, q3, d3, rfl, rfl, rfl⟩ := tab_form h2 s1 s2 s3
    exact ⟨q1, d1, q2, d2, q3, d3, rfl, h2, hb⟩
  · intro W p1 c1 p2 c2 p3 c3 hB h
    refine (Slim_any (slimT t) _ _ _ W h hsS (hLd.below hB)).mono ?_
    rintro e w' ⟨xe, xa, xw, rfl, h2, hb⟩
    rw [hF2] at h2
    rw [hF2, hsl]
    obtain ⟨q1, d1, q2, d2, q3, d3, rfl, rfl, rfl⟩ := tab_form h2 s1 s2 s3
    exact ⟨q1, d1, q2, d2, q3, d3, rfl, h2, hb⟩
  · intro W p1 c1 p2 c2 p3 c3 h
    have := isLattice_any (slimT t) _ _ _ W h hsS
    rw [hsl] at this
    exact this
  · intro W p1 c1 p2 c2 p3 c3 q1 d1 q2 d2 q3 d3 h h2
    exact sameTable_any (slimT t) _ _ _ _ _ _ W h h2 (by omega) (by omega) (by omega)
  · intro W p1 c1 p2 c2 p3 c3 k hB hk h
    refine (Reach_any t _ _ _ (k : Nat) W h hS (hLd.below hB)).mono ?_
    rintro e w' ⟨v, rfl, h2, hb⟩
    rw [tabE_one hf hk] at h2 ⊢
    exact ⟨v, rfl, h2, hb⟩
  · intro W p1 c1 p2 c2 p3 c3 k hB hk h
    refine (Reach_any (slimT t) _ _ _ (k : Nat) W h hsS (hLd.below hB)).mono ?_
    rintro e w' ⟨v, rfl, h2, hb⟩
    rw [tabE_one hsf hk] at h2 ⊢
    rw [if_pos rfl, Int.toNat_natCast, slim_ups hl] at h2
    exact ⟨v, rfl, h2, hb⟩
  · intro W p1 c1 p2 c2 p3 c3 k i hB hk hi h
    have hcf := cut_frm hsf (show k < (slimT t).above.length by omega) i
    refine (Reach_any (cutT (slimT t) k i) _ _ _ (k : Nat) W h (frm_small hcf) (hLd.below hB)).mono ?_
    rintro e w' ⟨v, rfl, h2, hb⟩
    rw [tabE_one hcf hk] at h2 ⊢
    rw [if_pos rfl, Int.toNat_natCast] at h2
    have := cut_miss hl hk hi
    rw [slim_ups hl] at this
    exact ⟨v, _, rfl, h2, this, hb⟩
  · intro W u v a c h1 h2
    exact sameInts_any u v a c W h1 h2
end Go.Proofs.YtfhnigpjmljhbaaDoor.Or
