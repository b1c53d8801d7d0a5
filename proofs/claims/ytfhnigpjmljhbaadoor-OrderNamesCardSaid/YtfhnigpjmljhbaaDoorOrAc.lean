/- A range over a group's elements; the contracts of rightAbove and height. -/
import Derived.Test.YtfhnigpjmljhbaaDoorOrAb
set_option linter.unusedVariables false
set_option linter.unusedSimpArgs false
namespace Go.Proofs.YtfhnigpjmljhbaaDoor.Or
open Go.RowKit Go.Shelf
attribute [local go_sem] Oper.semAt_some

def BK (w : World) (k : Nat) : Prop := k = w.heap.size ∨ k = w.heap.size + 1
def BT (w : World) (k : Nat) : Prop := k = 1 ∨ k = w.heap.size ∨ k = w.heap.size + 1

theorem each_till {g : Operand} {p : Tmp} {assign body : Code} {Q : Exit → Act → World → Prop} {a : Act} {w : World} {N : Nat} (hN : 8 ≤ N) {bg gv : Nat}
    (hg : a.eval g = .func (.func 112) #[] #[.pointer (some ⟨bg, 0, none⟩)]) (hgv : gv < 65536) (hc : w.cell? ⟨bg, 0, none⟩ = some (.int .u16 gv)) (hL : TabOk w)
    (I : List Nat → World → Prop) (hI : ∀ s A B, I s A → Diff (BK w) A B → I s B) (Ix : Code → List Nat → World → Prop) (hIx : ∀ c s A B, Ix c s A → Diff (BK w) A B → Ix c s B) (h0 : I [] w)
    (Ax : List Nat → Nat → Act → World → Prop) (hAx : ∀ s x a' A B, Ax s x a' A → Diff (BK w) A B → Ax s x a' B)
    (hassign : ∀ (l : Nat) (pre : List Nat) (x : Nat) (W : World) (K : Act → World → Prop), pre ++ [x] <+: elems gv 16 → I pre W → w.heap.size + 2 ≤ W.heap.size → (∀ a' W', Keep (BT w) W W' → Ax pre x a' W' → K a' W') →
      assign.wpIn (Fence.wide.inRound l) (N - 1 - 1) Tryd.prog (Exit.then K (fun _ _ _ => False)) { tmps := ((#[p] : Array Tmp).zip #[Value.int .i64 x]).foldl (fun t (p, v) => t.setIfInBounds p v) a.tmps, defers := [] } W)
    (hbody : ∀ (l : Nat) (pre : List Nat) (x : Nat) (a' : Act) (W : World), pre ++ [x] <+: elems gv 16 → Ax pre x a' W → w.heap.size + 2 ≤ W.heap.size → body.wpIn (Fence.wide.inRound l) (N - 1 - 1) Tryd.prog (roundEndS (BT w) I Ix (pre ++ [x]) W) a' W)
    (hdone : ∀ (W : World), I (elems gv 16) W → W.heap[w.heap.size]? = some (.deferred (some [])) → Q .normal { a with defers := { target := .collected w.heap.size, args := #[] } :: a.defers } W)
    (hstop : ∀ (c : Code) (pre : List Nat) (x : Nat) (W : World), pre ++ [x] <+: elems gv 16 → Ix c (pre ++ [x]) W → W.heap[w.heap.size]? = some (.deferred (some [])) → c.wpIn Fence.wide N Tryd.prog Q { a with defers := { target := .collected w.heap.size, args := #[] } :: a.defers } W) :
    (Code.rangeFunc g #[p] assign body).wpIn Fence.wide N Tryd.prog Q a w := by
  have hlt := hL.lt
  refine range_till (F := Fence.wide) (gf := 112) (lb := #[.pointer (some ⟨bg, 0, none⟩)]) (n := N) rfl (by omega) hg trivial (enters_of Tryd.func112 (by kernel_rfl) rfl)
    (each_iter (N - 1) (by omega) bg gv w hgv hc hL) (Below.refl _ _) (fun _ => rfl) (BK w) ?hZ (.inl rfl) (.inr rfl) (BT w) ?hY (.inr (.inl rfl)) (.inr (.inr rfl)) I hI Ix hIx h0 Ax hAx ?assign ?body ?hYb hdone hstop
  case hZ => rintro W1 h1 k hk; exact hk.elim
  case hY => rintro W1 h1 k hk; have hk' : k = 1 := hk; exact ⟨.inl hk', by omega⟩
  case hYb =>
    rintro W1 h1 k hk
    rcases hk with hk | hk | hk
    · exact .inl hk
    · exact .inr (by omega)
    · exact .inr (by omega)
  case assign => exact fun l pre x W K hp hi hb hK => hassign l pre x W K hp hi (hb _ (.inr (.inr rfl))) hK
  case body => exact fun l pre x a' W hp ha hb => hbody l pre x a' W hp ha (hb _ (.inr (.inr rfl)))

/-- A pointer in one cell, a value in another one. -/
def BxP (w : World) (m q b : Nat) (x : Value) (V : World) : Prop :=
  (V.cell? ⟨m, 0, none⟩ = some (.pointer (some ⟨b, 0, none⟩)) ∧ V.cell? ⟨q, 0, none⟩ = some x ∧ V.frozen? ⟨q, 0, none⟩ = false) ∧ Below w.heap.size w V
theorem BxP.diff {w : World} {m q b : Nat} {x : Value} {A B : World} {Z : Nat → Prop} (h : BxP w m q b x A) (hd : Diff Z A B) (hm : ¬ Z m) (hq : ¬ Z q) (hz : ∀ k, k < w.heap.size → ¬ Z k) : BxP w m q b x B :=
  ⟨⟨cell_diff h.1.1 hd hm, cell_diff h.1.2.1 hd hq, frozen_diff h.1.2.1 h.1.2.2 hd hq⟩, h.2.trans (hd.below h.2.size hz)⟩
theorem BxP.drew {w : World} {m q b : Nat} {x : Value} {A : World} (h : BxP w m q b x A) : BxP w m q b x A.drew :=
  h.diff (Z := fun _ => False) (Diff.refl _ _).drew (fun h => h) (fun h => h) (fun _ _ h => h)
theorem BxP.mono {w : World} {m q b : Nat} {x : Value} {A B : World} (h : BxP w m q b x A) (hb : Below A.heap.size A B) : BxP w m q b x B := by
  have h1 : m < A.heap.size := cell_lt h.1.1
  have h2 : q < A.heap.size := cell_lt h.1.2.1
  have h3 := h.2.size
  exact h.diff (Z := fun j => A.heap.size ≤ j) ⟨hb.os, hb.tape, hb.output, hb.size, fun j hj hz => hb.block j hj⟩ (by omega) (by omega) (fun k hk => by omega)
theorem BxP.set {w : World} {m q b : Nat} {x : Value} {A : World} (h : BxP w m q b x A) (hm : m ≠ q) (hq : w.heap.size ≤ q) (y : Value) : BxP w m q b y (A.setCell ⟨q, 0, none⟩ y) := by
  have hd : Diff (fun j => j = q) A (A.setCell ⟨q, 0, none⟩ y) := Diff.setCell (Z := fun j => j = q) (Diff.refl _ _) (p := ⟨q, 0, none⟩) rfl y
  refine ⟨⟨cell_diff h.1.1 hd hm, ?_, ?_⟩, h.2.trans (hd.below h.2.size (fun j hj => by omega))⟩
  · rw [World.cell?_setCell_same' _ _ _ (by rw [h.1.2.1]; rfl)]
  · rw [World.frozen?_setCell]; exact h.1.2.2

def covG (t : Tab) (a : Nat) : Nat := grp (cov t.R t.n a) t.n
/-- What is right above, when some were looked at. -/
def lessG (t : Tab) (a : Nat) (l : List Nat) : Nat := grp (fun i => t.R a i && !l.any fun c => t.R c i) t.n
theorem lessG_nil (t : Tab) (a : Nat) : lessG t a [] = grp (t.R a) t.n := grp_congr fun i _ => by simp
theorem lessG_end {t : Tab} (h : frmF t = true) (a : Nat) : lessG t a ((List.range t.n).filter (t.R a)) = covG t a :=
  grp_congr fun i _ => (cov_eq t.R t.n a i fun x y hR => (R_rng h hR).2).symm

set_option maxRecDepth 100000 in
set_option maxHeartbeats 4000000 in
theorem rightAbove_any (b : Nat) (t : Tab) (a : Nat) (w : World) (hW : WalkedAt w b t) (hL : TabOk w) (ha : a < t.n) :
    Calls Tryd.prog 42 #[.pointer (some ⟨b, 0, none⟩), .int .i64 a] w fun e w' => e = .returned (.int .u16 (covG t a : Nat)) ∧ Below w.heap.size w w' := by
  obtain ⟨N, hN⟩ : ∃ n : Nat, 8 ≤ n := ⟨8, Nat.le_refl _⟩
  refine (callsIn_wide (n := N)).1 ?_
  have h1n : 1 ≤ N := by omega
  have h1n2 : 1 ≤ N - 1 - 1 := by omega
  obtain ⟨n1, n2⟩ := hW.n12
  have lb := hW.lt
  have hrow := hW.rows a ha
  obtain ⟨r, hr⟩ : ∃ r, r = grp (t.R a) t.n := ⟨_, rfl⟩
  rw [← hr] at hrow
  have hr16 : r < 65536 := by rw [hr]; exact grp_lt16 _ (by omega)
  have hix := ix_row b a (by omega)
  have HWW := Lib.hid hW; have HLL := Lib.hid hL; have HR := Lib.hid hr
  obtain ⟨m, hm⟩ : ∃ m, m = w.heap.size := ⟨_, rfl⟩
  have HM := Lib.hid hm
  have htab := hL.lt
  clear hW hL hr
  refine callsIn_of_wp_marks Tryd.func42 rfl trivial ?_ rfl
  simp only [Tryd.ntmps42, List.size_toArray, List.length_cons, List.length_nil, Nat.reduceAdd, Nat.reduceSub, Array.replicate_succ, Array.replicate_zero, List.push_toArray, List.append_toArray, List.nil_append, List.cons_append]
  gi_wp2_with (refine ⟨trivial, ?_⟩; gi_at_call 80; refine (callsIn_wide.2 (each_any _ _)).mono ?_; rintro e w' ⟨rfl, rfl⟩)
  obtain ⟨W5, hW5⟩ : ∃ W5, W5 = ((w.alloc (Obj.cells #[Value.pointer (some { block := b, off := 0 })] 68)).alloc (Obj.cells #[Value.int IntKind.u16 ↑r] 72)).alloc (Obj.cells #[Value.int IntKind.u16 ↑r] 72) := ⟨_, rfl⟩
  rw [← hW5, ← hm]
  have b5 : Below w.heap.size w W5 := by rw [hW5]; exact (((Below.refl _ _).alloc (Nat.le_refl _) _).alloc (by simp) _).alloc (by simp; omega) _
  have z5 : W5.heap.size = m + 3 := by rw [hW5, hm]; simp
  have p5 : W5.cell? ⟨m, 0, none⟩ = some (.pointer (some ⟨b, 0, none⟩)) := by rw [hW5, hm]; simp [go_sem]
  have o5 : W5.cell? ⟨m + 1, 0, none⟩ = some (.int .u16 r) := by rw [hW5, hm]; simp [go_sem]
  have f5 : W5.frozen? ⟨m + 1, 0, none⟩ = false := by rw [hW5, hm]; simp [go_sem]
  have e5 : W5.cell? ⟨m + 2, 0, none⟩ = some (.int .u16 r) := by rw [hW5, hm]; simp [go_sem]
  have hels : elems r 16 = (List.range t.n).filter (t.R a) := by rw [HR.out]; exact elems_grp _ (by omega)
  have HE := Lib.hid hels; have Z5 := Lib.hid z5
  have htm : 1 < m := by omega
  have HTM := Lib.hid htm
  clear hW5 hels hm z5 htab htm
  refine each_till hN (bg := m + 2) (gv := r) rfl hr16 e5 (HLL.out.below b5)
    (fun pre V => (V.cell? ⟨m, 0, none⟩ = some (.pointer (some ⟨b, 0, none⟩)) ∧ V.cell? ⟨m + 1, 0, none⟩ = some (.int .u16 (lessG t a pre : Nat)) ∧ V.frozen? ⟨m + 1, 0, none⟩ = false) ∧ Below w.heap.size w V) ?hI
    (fun _ _ _ => False) (fun _ _ _ _ h _ => h) ⟨⟨p5, by rw [lessG_nil, ← HR.out]; exact o5, f5⟩, b5⟩
    (fun pre x a' V => ((V.cell? ⟨m, 0, none⟩ = some (.pointer (some ⟨b, 0, none⟩)) ∧ V.cell? ⟨m + 1, 0, none⟩ = some (.int .u16 (lessG t a pre : Nat)) ∧ V.frozen? ⟨m + 1, 0, none⟩ = false) ∧ Below w.heap.size w V) ∧
      ∃ v4 v7 v8 v9 v10 v11 v12 v13 v14 v15 v16 v17 v18 v19, a' = { tmps := #[.pointer (some ⟨b, 0, none⟩), .int .i64 a, .pointer (some ⟨m, 0, none⟩), undef, v4, .pointer (some ⟨m + 1, 0, none⟩), .int .i64 x, v7, v8, v9, v10, v11, v12, v13, v14, v15, v16, v17, v18, v19, .int .i64 x, undef, undef, undef, undef, undef, undef, undef, undef, undef], defers := [] })
    ?hAx ?assign ?body ?done ?stop
  case hI =>
    rintro pre A B ⟨⟨a1, a2, a3⟩, a4⟩ hd
    have e := HM.out; have z := Z5.out
    have hz : ∀ j, j < m + 3 → ¬ BK W5 j := fun j hj h => by rcases h with h | h <;> omega
    exact ⟨⟨cell_diff a1 hd (hz _ (by omega)), cell_diff a2 hd (hz _ (by omega)), frozen_diff a2 a3 hd (hz _ (by omega))⟩, a4.trans (hd.below a4.size (fun k hk => hz k (by omega)))⟩
  case hAx =>
    rintro pre x a' A B ⟨⟨⟨a1, a2, a3⟩, a4⟩, ha⟩ hd
    have e := HM.out; have z := Z5.out
    have hz : ∀ j, j < m + 3 → ¬ BK W5 j := fun j hj h => by rcases h with h | h <;> omega
    exact ⟨⟨⟨cell_diff a1 hd (hz _ (by omega)), cell_diff a2 hd (hz _ (by omega)), frozen_diff a2 a3 hd (hz _ (by omega))⟩, a4.trans (hd.below a4.size (fun k hk => hz k (by omega)))⟩, ha⟩
  case assign =>
    rintro l' pre x V K hpre hh hbnd hK
    gi_wp2
    exact hK _ _ (Keep.refl _ _) ⟨hh, _, _, _, _, _, _, _, _, _, _, _, _, _, _, rfl⟩
  case body =>
    rintro l' pre x a' V hpre ⟨⟨⟨a1, a2, a3⟩, a4⟩, v4, v7, v8, v9, v10, v11, v12, v13, v14, v15, v16, v17, v18, v19, rfl⟩ hbnd
    have hxe : x ∈ (List.range t.n).filter (t.R a) := by
      rw [← HE.out]; obtain ⟨r, hr⟩ := hpre; rw [← hr]; simp
    have hxn : x < t.n := List.mem_range.1 (List.mem_filter.1 hxe).1
    have hrowx := (HWW.out.below a4).rows x hxn
    obtain ⟨rx, hrx⟩ : ∃ r, r = grp (t.R x) t.n := ⟨_, rfl⟩
    rw [← hrx] at hrowx
    have hixx := ix_row b x (by omega)
    obtain ⟨G, hG⟩ : ∃ G, G = lessG t a pre := ⟨_, rfl⟩
    rw [← hG] at a2
    have e1 := bits16_andNot G rx (by rw [hG]; exact grp_lt16 _ (by omega)) (by rw [hrx]; exact grp_lt16 _ (by omega))
    obtain ⟨G2, hG2⟩ : ∃ D, D = G &&& (65535 - rx) := ⟨_, rfl⟩
    rw [← hG2] at e1
    have hnew : Hid (G2 = lessG t a (pre ++ [x])) := by
      show _ = _
      rw [hG2, hG, hrx]; exact row_less t.R (by omega) a pre x
    have HP : Hid (BxP w m (m + 1) b (.int .u16 G) V) := ⟨⟨a1, a2, a3⟩, a4⟩
    clear hxe hxn hrx hG hG2 a4
    gi_wp2
    gi_region_with (fail)
    all_goals
      have e := HM.out; have z := Z5.out; have ht := HTM.out
      clear hrowx hixx hrow hix
      gi_wp2
      refine ⟨?_, (show BxP w m (m + 1) b (.int .u16 (lessG t a (pre ++ [x]) : Nat)) _ from ?_)⟩
      · repeat (first | exact Keep.refl _ _ | refine Keep.drew ?_ | refine Keep.setCell ?_ (by rintro (h | h | h) <;> simp at h <;> omega) _)
      · rw [← hnew.out]
        repeat (first | exact HP.out | refine BxP.drew ?_ | refine BxP.set (x := .int .u16 G) ?_ (by omega) (by omega) _)
  case done =>
    rintro V ⟨⟨a1, a2, a3⟩, a4⟩ hK
    have hR : lessG t a (elems r 16) = covG t a := by rw [HE.out]; exact lessG_end HWW.out.frm a
    rw [hR] at a2
    clear hR
    gi_wp2
    have e := HM.out; have z := Z5.out
    refine ⟨by simp, .inl ⟨_, _, rfl, run_takeDeferred hK, ?_⟩⟩
    have hd := (Diff.refl (fun k => k = W5.heap.size) V).putObj (l := W5.heap.size) rfl (Obj.deferred none)
    exact ⟨.int .u16 (covG t a : Nat), by simp [results, Tryd.results42, go_sem], rfl, a4.trans (hd.below a4.size (fun j hj hm => by omega))⟩
  case stop => rintro c pre x V hpre h; exact h.elim
end Go.Proofs.YtfhnigpjmljhbaaDoor.Or
