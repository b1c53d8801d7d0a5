/- A shape that is being read. -/
import Derived.Test.YtfhnigpjmljhbaaDoorOrPi
set_option linter.unusedVariables false
set_option linter.unusedSimpArgs false
namespace Go.Proofs.YtfhnigpjmljhbaaDoor.Or
open Go.RowKit Go.Shelf Go.WideMaps Go.Maps

/-- The kids of a shape, by a way to read one; a shape. -/
def kidsF (g : List UInt8 → Bool → Shp × List UInt8 × Bool) : Nat → List UInt8 → Bool → List Shp × List UInt8 × Bool
  | 0, r, lo => ([], r, lo)
  | j + 1, r, lo =>
    ((kidsF g j r lo).1 ++ [(g (cutF (if j = 0 then [40] else [44, 32]) (kidsF g j r lo).2.1) ((kidsF g j r lo).2.2 || !prefB (if j = 0 then [40] else [44, 32]) (kidsF g j r lo).2.1)).1],
     (g (cutF (if j = 0 then [40] else [44, 32]) (kidsF g j r lo).2.1) ((kidsF g j r lo).2.2 || !prefB (if j = 0 then [40] else [44, 32]) (kidsF g j r lo).2.1)).2)
def shapeF : Nat → List UInt8 → Bool → Shp × List UInt8 × Bool
  | 0, r, lo => (.mk 0 [] [], r, lo)
  | f + 1, r, lo =>
    if (kwF (wordF r) 8).2 then
      if kidN (kwF (wordF r) 8).1 = 0 then (.mk (kwF (wordF r) 8).1 [] [], leftF r, lo)
      else (.mk (kwF (wordF r) 8).1 [] (kidsF (shapeF f) (kidN (kwF (wordF r) 8).1) (leftF r) lo).1, cutF [41] (kidsF (shapeF f) (kidN (kwF (wordF r) 8).1) (leftF r) lo).2.1, (kidsF (shapeF f) (kidN (kwF (wordF r) 8).1) (leftF r) lo).2.2 || !prefB [41] (kidsF (shapeF f) (kidN (kwF (wordF r) 8).1) (leftF r) lo).2.1)
    else (.mk 5 (wordF r) [], leftF r, lo)
theorem kidsF_len {g : List UInt8 → Bool → Shp × List UInt8 × Bool} (hg : ∀ r lo, (g r lo).2.1.length ≤ r.length) : ∀ j r lo, (kidsF g j r lo).2.1.length ≤ r.length ∧ (kidsF g j r lo).1.length = j
  | 0, r, lo => by simp [kidsF]
  | j + 1, r, lo => by
    have ih := kidsF_len hg j r lo
    unfold kidsF
    refine ⟨Nat.le_trans (hg _ _) (Nat.le_trans (cutF_len _ _) ih.1), by simp [ih.2]⟩
theorem shapeF_len : ∀ f r lo, (shapeF f r lo).2.1.length ≤ r.length
  | 0, r, lo => Nat.le_refl _
  | f + 1, r, lo => by
    have h1 := leftF_len r
    unfold shapeF
    split
    · split
      · exact h1
      · exact Nat.le_trans (cutF_len _ _) (Nat.le_trans (kidsF_len (shapeF_len f) _ _ _).1 h1)
    · exact h1
theorem kw_word {x : List UInt8} (h : (kwF x 8).2 = true) : x ≠ [] ∧ (kwF x 8).1 < 8 := by
  have key : ∀ k, (kwF x k).2 = true → x ≠ [] ∧ (kwF x k).1 < k := by
    intro k
    induction k with
    | zero => intro h; simp [kwF] at h
    | succ k ih =>
      intro h
      unfold kwF at h ⊢
      split at h
      · rename_i e; rw [if_pos e]; have := ih h; exact ⟨this.1, by omega⟩
      · rename_i e
        rw [if_neg e]
        split at h
        · rename_i e2; rw [if_pos e2]; exact ⟨by rw [← e2]; exact e, by show k < k + 1; omega⟩
        · rename_i e2; rw [if_neg e2]; have := ih h; exact ⟨this.1, by omega⟩
  exact key 8 h
theorem left_less {r : List UInt8} (h : wordF r ≠ []) : (leftF r).length < r.length := by
  have h1 : wendF r ≠ 0 := fun e => h (by unfold wordF; rw [e]; rfl)
  have h2 := wend_le r
  unfold leftF; rw [List.length_drop]; omega

/-- The cells of shapes in a row. -/
def cellsOf : List Shp → List Value → List Value
  | s :: l, v :: vs => .int .u8 s.k :: .string (mkS s.nm) :: v :: cellsOf l vs
  | _, _ => []
theorem cellsOf_snoc : ∀ (l : List Shp) (vs : List Value) (s : Shp) (v : Value), vs.length = l.length → cellsOf (l ++ [s]) (vs ++ [v]) = cellsOf l vs ++ [.int .u8 s.k, .string (mkS s.nm), v]
  | [], [], s, v, _ => rfl
  | [], _ :: _, s, v, h => by simp at h
  | _ :: _, [], s, v, h => by simp at h
  | x :: l, y :: vs, s, v, h => by
    simp only [List.cons_append, cellsOf]
    rw [cellsOf_snoc l vs s v (by simpa using h)]
theorem cellsOf_get : ∀ (l : List Shp) (vs : List Value) (i : Nat) (h : i < l.length) (h' : i < vs.length), (cellsOf l vs)[i * 3]? = some (.int .u8 l[i].k) ∧ (cellsOf l vs)[i * 3 + 1]? = some (.string (mkS l[i].nm)) ∧ (cellsOf l vs)[i * 3 + 2]? = some vs[i]
  | [], _, i, h, _ => by simp at h
  | _ :: _, [], i, _, h' => by simp at h'
  | x :: l, y :: vs, 0, _, _ => by simp [cellsOf]
  | x :: l, y :: vs, i + 1, h, h' => by
    have ih := cellsOf_get l vs i (by simpa using h) (by simpa using h')
    have e0 : (i + 1) * 3 = i * 3 + 3 := by omega
    rw [e0, show i * 3 + 3 + 1 = i * 3 + 1 + 3 by omega, show i * 3 + 3 + 2 = i * 3 + 2 + 3 by omega]
    simpa [cellsOf] using ih
theorem ownsRow_typeS {w w' : World} {base b n size : Nat} {e T : TypeId} {v : Value} {xs : List Value} {cs : Array Value} {fr : Nat × Nat} (h : w.ownsRow base e size v n xs) (hb : w.heap[b]? = some (.cells cs T fr)) (hne : e ≠ T) (hd : Diff (fun k => k = b) w w') : w'.ownsRow base e size v n xs := by
  refine ⟨h.1, ?_⟩
  rcases h.2 with hn | ⟨g, cap, cur, rfl, hbg, hgg, rest⟩
  · exact .inl hn
  · refine .inr ⟨g, cap, cur, rfl, hbg, (hd.block g (heap_lt hgg) (fun e => ?_)).trans hgg, rest⟩
    have e' : g = b := e
    subst e'
    rw [hgg] at hb; injection hb with hb; injection hb with _ hb _; exact hne hb

/-- A shape that is being read: its block, the row of its kids, what the reader has left. -/
structure ShI (W : World) (b q k f : Nat) (kids : List Shp) (r : List UInt8) (lo : Bool) (vK : Value) (w : World) : Prop where
  rd : RdSt b r lo W w
  blk : w.heap[q]? = some (.cells #[.int .u8 k, .string ⟨#[]⟩, vK] 42 (0, 0))
  row : ∃ vs : List Value, vs.length = kids.length ∧ w.ownsRow (q + 1) 42 3 vK kids.length (cellsOf kids vs) ∧ ∀ i (h : i < kids.length) (h' : i < vs.length), ∃ l h, q + 1 ≤ l ∧ h ≤ w.heap.size ∧ KidR l h f w vs[i] kids[i] ∧ ∀ g, vK.ownBlock = some g → g < l ∨ h ≤ g
section
variable {W : World} {b q k f : Nat} {kids : List Shp} {r : List UInt8} {lo : Bool} {vK : Value} {w : World}
theorem ownsRow_belowS {w w' : World} {base n size : Nat} {e : TypeId} {v : Value} {xs : List Value} (h : w.ownsRow base e size v n xs) (hb : Below w.heap.size w w') : w'.ownsRow base e size v n xs := ownsRow_below h hb
theorem ShI.below {X : World} (h : ShI W b q k f kids r lo vK w) (hb : Below w.heap.size w X) : ShI W b q k f kids r lo vK X := by
  obtain ⟨vs, h1, h2, h3⟩ := h.row
  refine ⟨h.rd.below hb, heap_below hb h.blk, vs, h1, ownsRow_below h2 hb, fun i hi hi' => ?_⟩
  obtain ⟨l, u, g1, g2, g3, g4⟩ := h3 i hi hi'
  exact ⟨l, u, g1, Nat.le_trans g2 hb.size, g3.at (Nat.le_refl _) (Nat.le_refl _) (fun j _ hj => hb.block j (by omega)), g4⟩
theorem ShI.call {X : World} {r' : List UInt8} {lo' : Bool} (h : ShI W b q k f kids r lo vK w) (hbq : b < q) (hb : RdSt b r' lo' w X) : ShI W b q k f kids r' lo' vK X := by
  obtain ⟨vs, h1, h2, h3⟩ := h.row
  refine ⟨⟨hb.r, h.rd.d.trans hb.d⟩, (hb.d.block q (heap_lt h.blk) (fun e => by have e' : q = b := e; omega)).trans h.blk, vs, h1, ownsRow_typeS h2 h.rd.r (by decide) hb.d, fun i hi hi' => ?_⟩
  obtain ⟨l, u, g1, g2, g3, g4⟩ := h3 i hi hi'
  exact ⟨l, u, g1, Nat.le_trans g2 hb.d.size, g3.at (Nat.le_refl _) (Nat.le_refl _) (fun j hj1 hj => hb.d.block j (by omega) (fun e => by have e' : j = b := e; omega)), g4⟩
theorem ShI.put {X : World} {s : Shp} {v : Value} {p : Option Addr} {c lw hw : Nat} {vs : List Value} (h : ShI W b q k f kids r lo vK w) (hbq : b < W.heap.size) (hqW : W.heap.size ≤ q) (h1 : vs.length = kids.length)
    (h2 : w.ownsRow (q + 1) 42 3 vK kids.length (cellsOf kids vs)) (h3 : ∀ i (h : i < kids.length) (h' : i < vs.length), ∃ l h, q + 1 ≤ l ∧ h ≤ w.heap.size ∧ KidR l h f w vs[i] kids[i] ∧ ∀ g, vK.ownBlock = some g → g < l ∨ h ≤ g)
    (hk : KidR lw hw f w v s) (hl1 : q + 1 ≤ lw) (hl2 : hw ≤ w.heap.size) (hl3 : ∀ g, vK.ownBlock = some g → g < lw ∨ hw ≤ g)
    (ho : X.ownsRow (q + 1) 42 3 (.slice p (kids.length + 1) c) (kids.length + 1) (cellsOf kids vs ++ [.int .u8 s.k, .string (mkS s.nm), v])) (hg : w.grownBy X vK.ownBlock) (hf : (Value.slice p (kids.length + 1) c).ownBlock = vK.ownBlock ∨ (Value.slice p (kids.length + 1) c).ownBlock = some w.heap.size) :
    ShI W b q k f (kids ++ [s]) r lo (.slice p (kids.length + 1) c) (X.setCell ⟨q, 2, none⟩ (.slice p (kids.length + 1) c)) := by
  have hqne : ∀ g, vK.ownBlock = some g → q ≠ g := fun g e => by have := (h2.lt g e).1; omega
  have hqX : X.heap[q]? = some (.cells #[.int .u8 k, .string ⟨#[]⟩, vK] 42 (0, 0)) := (hg.block q (heap_lt h.blk) (fun e => hqne q e.symm rfl)).trans h.blk
  have hbX : Below W.heap.size w X := Below.grown (Below.refl _ _) hg h.rd.d.size (fun j hj => by have := (h2.lt j hj).1; omega)
  have keep : ∀ l u : Nat, q + 1 ≤ l → u ≤ w.heap.size → (∀ g, vK.ownBlock = some g → g < l ∨ u ≤ g) → ∀ j, l ≤ j → j < u → (X.setCell ⟨q, 2, none⟩ (.slice p (kids.length + 1) c)).heap[j]? = w.heap[j]? := fun l u hl hu hgl j h4 h5 => by
    rw [Below.heap_setCell _ _ _ _ (by show j ≠ q; omega)]
    refine hg.block j (by omega) fun e => ?_
    have := hgl j e.symm; omega
  have far : ∀ l u : Nat, u ≤ w.heap.size → (∀ g, vK.ownBlock = some g → g < l ∨ u ≤ g) → ∀ g, (Value.slice p (kids.length + 1) c).ownBlock = some g → g < l ∨ u ≤ g := fun l u hu hgl g e => by
    rcases hf with hf | hf
    · exact hgl g (by rw [← hf]; exact e)
    · rw [hf] at e; injection e with e; omega
  have hsz : w.heap.size ≤ (X.setCell ⟨q, 2, none⟩ (.slice p (kids.length + 1) c)).heap.size := by rw [World.size_setCell]; exact hg.size
  refine ⟨⟨?_, ?_⟩, by rw [setCell_heap hqX]; rfl, vs ++ [v], by simp [h1], ?_, fun i hi hi' => ?_⟩
  · show (X.setCell _ _).heap[b]? = _
    rw [Below.heap_setCell _ _ _ _ (by show b ≠ q; omega)]
    exact (hbX.block b hbq).trans h.rd.r
  · exact (h.rd.d.grown hbX).grown (Below.setCell (Below.refl _ _) hqW _)
  · rw [cellsOf_snoc _ _ _ _ h1, List.length_append]
    refine ⟨ho.1, ?_⟩
    rcases ho.2 with ⟨_, hn⟩ | ⟨g, cap, cur, e1, hbg, hgg, rest⟩
    · omega
    · refine .inr ⟨g, cap, cur, e1, hbg, ?_, rest⟩
      rw [Below.heap_setCell _ _ _ _ (by show g ≠ q; omega)]; exact hgg
  · by_cases hik : i < kids.length
    · obtain ⟨l, u, g1, g2, g3, g4⟩ := h3 i hik (by omega)
      rw [List.getElem_append_left hik, List.getElem_append_left (by omega)]
      exact ⟨l, u, g1, Nat.le_trans g2 hsz, g3.at (Nat.le_refl _) (Nat.le_refl _) (keep l u g1 g2 g4), far l u g2 g4⟩
    · have hie : i = kids.length := by simp at hi; omega
      subst hie
      rw [List.getElem_append_right (Nat.le_refl _), List.getElem_append_right (by omega)]
      simp only [Nat.sub_self, h1, List.getElem_cons_zero]
      exact ⟨lw, hw, hl1, Nat.le_trans hl2 hsz, hk.at (Nat.le_refl _) (Nat.le_refl _) (keep lw hw hl1 hl2 hl3), far lw hw hl2 hl3⟩
/-- What a shape that was read is. -/
theorem ShI.done {nm : List UInt8} (h : ShI W b q k f kids r lo vK w) (hk : k < 256) (hkl : kids.length ≤ 1000) (hlo : W.heap.size ≤ q) {l0 : Nat} (hl0 : l0 ≤ q) : KidR l0 w.heap.size (f + 1) w vK (.mk k [] kids) := by
  obtain ⟨vs, h1, h2, h3⟩ := h.row
  obtain ⟨p, c, rfl⟩ := ownsRow_slice h2
  refine ⟨⟨hk, by show (0 : Nat) ≤ _; omega⟩, p, c, rfl, ⟨hkl, ?_⟩, ?_⟩
  · rcases h2.2 with ⟨_, h0⟩ | ⟨g, cap, cur, e1, hbg, hgg, hnc, _⟩
    · show kids.length ≤ c; omega
    · simp only [Value.slice.injEq] at e1
      show kids.length ≤ c
      rw [e1.2.2]; exact hnc
  · by_cases hn0 : kids.length = 0
    · exact .inl hn0
    · rcases h2.2 with ⟨_, h0⟩ | ⟨g, cap, cur, e1, hbg, hgg, hnc, _⟩
      · omega
      · simp only [Value.slice.injEq] at e1
        obtain ⟨rfl, _, rfl⟩ := e1
        refine .inr ⟨g, 0, rfl, ⟨by omega, heap_lt hgg⟩, fun i hi => ?_⟩
        have hi1 : i < kids.length := hi
        obtain ⟨c0, c1, c2⟩ := cellsOf_get kids vs i hi1 (by omega)
        have hcell : ∀ j u, (cellsOf kids vs)[j]? = some u → w.cell? ⟨g, j, none⟩ = some u := fun j u hj => by
          have := h2.cells (g := g) rfl j u hj
          have hadd : (⟨g, 0, none⟩ : Addr).add j = ⟨g, j, none⟩ := by unfold Addr.add; split <;> simp_all
          rwa [hadd] at this
        obtain ⟨l, u, g1, g2, g3, g4⟩ := h3 i hi1 (by omega)
        obtain ⟨p', c', e'⟩ := g3.form
        have hkid : (Shp.mk k [] kids).kid i = kids[i] := by simp [Shp.kid, Shp.kids, List.getD_eq_getElem?_getD, hi1]
        rw [hkid]
        rw [e'] at c2 g3
        refine ⟨p', c', by rw [Nat.zero_add]; exact hcell _ _ c0, by rw [Nat.zero_add]; exact hcell _ _ c1, by rw [Nat.zero_add]; exact hcell _ _ c2, ?_⟩
        show KidR l0 w.heap.size f w (.slice p' kids[i].n c') ((Shp.mk k [] kids).kid i)
        rw [hkid]
        exact g3.at (by omega) g2 (fun _ _ _ => rfl)
end
end Go.Proofs.YtfhnigpjmljhbaaDoor.Or
