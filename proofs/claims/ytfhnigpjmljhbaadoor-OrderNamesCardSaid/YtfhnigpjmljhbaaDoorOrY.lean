/- The contract of wrongBreak. -/
import Derived.Test.YtfhnigpjmljhbaaDoorOrVa
set_option linter.unusedVariables false
set_option linter.unusedSimpArgs false
namespace Go.Proofs.YtfhnigpjmljhbaaDoor.Or
open Go.RowKit Go.Shelf
attribute [local go_sem] Oper.semAt_some

/-- What wrongBreak comes to. -/
def wbF (R : Nat → Nat → Bool) (n : Nat) (wr : Nat → Bool) : Nat × Nat × Nat :=
  if wr 0 then (5, 0, 0) else match wrongF R n wr with | some p => (5, p.1, p.2) | none => (0, 0, 0)
/-- A break as a value. -/
def brkV (x : Nat × Nat × Nat) : Value := .agg #[.int .u8 x.1, .int .i64 x.2.1, .int .i64 x.2.2]
def marks (ds : List Nat) : List Deferred := ds.map fun D => { target := .collected D, args := #[] }
theorem leaves_marks {F : Fence} {n : Nat} {P : Program} {fn : Func} {tmps : Array Value} {R : Ending → World → Prop} {u : FrameMode} (hu : u ≠ .run) : ∀ (ds : List Nat) (W : World), (∀ D ∈ ds, W.heap[D]? = some (.deferred (some []))) → ds.Nodup →
    (∀ W', Diff (fun k => k ∈ ds) W W' → LeavesInM F n P fn tmps R [] u W') → LeavesInM F n P fn tmps R (marks ds) u W
  | [], W, _, _, h => h W (Diff.refl _ _)
  | D :: ds, W, hD, hnd, h => by
    rw [List.nodup_cons] at hnd
    refine ⟨hu, .inl ⟨D, _, rfl, run_takeDeferred (hD D (List.mem_cons_self ..)), leaves_marks hu ds _ (fun E hE => ?_) hnd.2 (fun W' hd => h W' ?_)⟩⟩
    · rw [World.putObj_heap_other (fun e => hnd.1 (by rw [← e]; exact hE))]; exact hD E (List.mem_cons_of_mem _ hE)
    · exact ((Diff.refl _ _).putObj (List.mem_cons_self ..) _).trans (hd.weaken fun k hk => List.mem_cons_of_mem _ hk)

/-- The pairs that wrongBreak has looked at when it comes to an element. -/
def wbP (t : Tab) (k : Nat) : List (Nat × Nat) := (List.range k).flatMap fun a => (ups t.R t.n [a]).map fun c => (a, c)
theorem wbP_succ (t : Tab) (k : Nat) : wbP t (k + 1) = wbP t k ++ (ups t.R t.n [k]).map fun c => (k, c) := by simp [wbP, List.range_succ]
theorem cell?_setCell_ne {V : World} {B i j : Nat} {v : Value} (h : i ≠ j) : (V.setCell ⟨B, j, none⟩ v).cell? ⟨B, i, none⟩ = V.cell? ⟨B, i, none⟩ := by
  simp only [World.setCell, World.cell?, Array.getElem?_modify]
  cases hb : V.heap[B]? with
  | none => simp
  | some o => cases o <;> simp [Array.getElem?_setIfInBounds, Ne.symm h]
theorem set3_cells {V : World} {B : Nat} (x y z : Value) (h0 : (V.cell? ⟨B, 0, none⟩).isSome = true) (h1 : (V.cell? ⟨B, 1, none⟩).isSome = true) (h2 : (V.cell? ⟨B, 2, none⟩).isSome = true) :
    (((V.setCell ⟨B, 0, none⟩ x).setCell ⟨B, 1, none⟩ y).setCell ⟨B, 2, none⟩ z).cell? ⟨B, 0, none⟩ = some x ∧ (((V.setCell ⟨B, 0, none⟩ x).setCell ⟨B, 1, none⟩ y).setCell ⟨B, 2, none⟩ z).cell? ⟨B, 1, none⟩ = some y ∧ (((V.setCell ⟨B, 0, none⟩ x).setCell ⟨B, 1, none⟩ y).setCell ⟨B, 2, none⟩ z).cell? ⟨B, 2, none⟩ = some z := by
  refine ⟨?_, ?_, ?_⟩
  · rw [cell?_setCell_ne (by decide), cell?_setCell_ne (by decide), World.cell?_setCell_same' _ _ _ h0]
  · rw [cell?_setCell_ne (by decide), World.cell?_setCell_same' _ _ _ (by rw [cell?_setCell_ne (by decide)]; exact h1)]
  · rw [World.cell?_setCell_same' _ _ _ (by rw [cell?_setCell_ne (by decide), cell?_setCell_ne (by decide)]; exact h2)]
theorem set3_diff {V : World} {B : Nat} (x y z : Value) : Diff (fun k => k = B) V (((V.setCell ⟨B, 0, none⟩ x).setCell ⟨B, 1, none⟩ y).setCell ⟨B, 2, none⟩ z) :=
  (((Diff.refl (fun k => k = B) V).setCell (p := ⟨B, 0, none⟩) rfl x).setCell (p := ⟨B, 1, none⟩) rfl y).setCell (p := ⟨B, 2, none⟩) rfl z
theorem wrongF_eq (t : Tab) : wrongF t.R t.n t.wr = (wbP t t.n).find? fun p => t.wr p.1 && !t.wr p.2 := rfl
theorem wb_no {t : Tab} (h0 : t.wr 0 = false) (h : ∀ p ∈ wbP t t.n, (t.wr p.1 && !t.wr p.2) = false) : wbF t.R t.n t.wr = (0, 0, 0) := by
  unfold wbF
  rw [h0, wrongF_eq, List.find?_eq_none.2 (fun p hp => by rw [h p hp]; simp)]; rfl
theorem wb_yes {t : Tab} {k x : Nat} {pre r : List Nat} (h0 : t.wr 0 = false) (hk : k < t.n) (h : ∀ p ∈ wbP t k, (t.wr p.1 && !t.wr p.2) = false) (he : pre ++ [x] ++ r = ups t.R t.n [k]) (hp : ∀ y ∈ pre, (t.wr k && !t.wr y) = false) (hx : (t.wr k && !t.wr x) = true) : wbF t.R t.n t.wr = (5, k, x) := by
  obtain ⟨s, hs⟩ := range_pre (show k + 1 ≤ t.n by omega)
  have e : wbP t t.n = wbP t k ++ ((pre.map fun c => (k, c)) ++ ((k, x) :: ((r.map fun c => (k, c)) ++ s.flatMap fun a => (ups t.R t.n [a]).map fun c => (a, c)))) := by
    have h1 : wbP t t.n = wbP t (k + 1) ++ s.flatMap fun a => (ups t.R t.n [a]).map fun c => (a, c) := by
      show (List.range t.n).flatMap _ = _
      rw [← hs, List.flatMap_append]; rfl
    rw [h1, wbP_succ, ← he]; simp
  have hf : wrongF t.R t.n t.wr = some (k, x) := by
    rw [wrongF_eq, e, List.find?_append, List.find?_eq_none.2 (fun p hp => by rw [h p hp]; simp), List.find?_append, List.find?_eq_none.2 (fun p hp' => by
      rw [List.mem_map] at hp'
      obtain ⟨c, hc, rfl⟩ := hp'
      show ¬ (t.wr k && !t.wr c) = true
      rw [hp c hc]; simp)]
    rw [List.find?_cons_of_pos (by exact hx)]; rfl
  unfold wbF
  rw [h0, hf]; rfl
/-- What lies in memory between two elements. -/
structure WbI (w : World) (b : Nat) (W : World) : Prop where
  p : W.cell? ⟨w.heap.size, 0, none⟩ = some (.pointer (some ⟨b, 0, none⟩))
  r0 : W.cell? ⟨w.heap.size + 1, 0, none⟩ = some (.int .u8 0)
  r1 : W.cell? ⟨w.heap.size + 1, 1, none⟩ = some (.int .i64 0)
  r2 : W.cell? ⟨w.heap.size + 1, 2, none⟩ = some (.int .i64 0)
  f : ∀ o, o < 3 → W.frozen? ⟨w.heap.size + 1, o, none⟩ = false
  below : Below w.heap.size w W
theorem WbI.diff {w W W' : World} {b : Nat} {Z : Nat → Prop} (h : WbI w b W) (hd : Diff Z W W') (hz : ∀ k, k < w.heap.size + 2 → ¬ Z k) : WbI w b W' :=
  ⟨cell_diff h.p hd (hz _ (by omega)), cell_diff h.r0 hd (hz _ (by omega)), cell_diff h.r1 hd (hz _ (by omega)), cell_diff h.r2 hd (hz _ (by omega)),
    fun o ho => (World.frozen?_of_block (w := W) (hd.block (w.heap.size + 1) (cell_lt h.r0) (hz _ (by omega)))).trans (h.f o ho), h.below.trans (hd.below h.below.size (fun k hk => hz k (by omega)))⟩
theorem WbI.mono {w W W' : World} {b : Nat} (h : WbI w b W) (hb : Below W.heap.size W W') : WbI w b W' := h.diff (Below.diff hb (fun _ => False)) (fun _ _ => id)

set_option maxRecDepth 100000 in
set_option maxHeartbeats 4000000 in
theorem wrongBreak_any (b : Nat) (t : Tab) (w : World) (hW : WalkedAt w b t) (hL : TabOk w) :
    Calls Tryd.prog 96 #[.pointer (some ⟨b, 0, none⟩)] w fun e w' => e = .returned (brkV (wbF t.R t.n t.wr)) ∧ Below w.heap.size w w' := by
  obtain ⟨N, hN⟩ : ∃ n : Nat, 8 ≤ n := ⟨8, Nat.le_refl _⟩
  refine (callsIn_wide (n := N)).1 ?_
  have h1n : 1 ≤ N := by omega
  have h1n2 : 1 ≤ N - 1 - 1 := by omega
  obtain ⟨n1, n2⟩ := hW.n12
  have hwl := (frm_len hW.frm).2.2.2
  obtain ⟨pe, ce, he⟩ := hW.elems
  obtain ⟨pw, cw, hw, hwr⟩ := hW.wrong
  obtain ⟨b0, off0, rfl, hw0⟩ := RdB.cell (p := pw) (i := 0) hwr (by unfold Tab.n at n1; omega)
  rw [Nat.add_zero] at hw0
  have hwr0 : t.wrong.getD 0 false = t.wr 0 := rfl
  rw [hwr0] at hw0
  have lb := hW.lt
  have lb0 : b0 < w.heap.size := cell_lt hw0
  cases hq0 : t.wr 0 with
  | true =>
    rw [hq0] at hw0
    have HF : Hid (wbF t.R t.n t.wr = (5, 0, 0)) := by show _ = _; unfold wbF; rw [hq0]; rfl
    clear hq0 hwr0 hL hwr hwl
    refine callsIn_of_wp_marks Tryd.func96 rfl trivial ?_ rfl
    simp only [Tryd.ntmps96, List.size_toArray, List.length_cons, List.length_nil, Nat.reduceAdd, Nat.reduceSub, Array.replicate_succ, Array.replicate_zero, List.push_toArray, List.append_toArray, List.nil_append, List.cons_append]
    gi_wp2
    have hb2 : Below w.heap.size w ((w.alloc (Obj.cells #[Value.pointer (some { block := b, off := 0 })] 68)).alloc (Obj.cells #[Value.int IntKind.u8 5, Value.int IntKind.i64 0, Value.int IntKind.i64 0] 52)) := ((Below.refl _ _).alloc (Nat.le_refl _) _).alloc (by simp) _
    exact ⟨brkV (5, 0, 0), by simp [results, Tryd.results96, go_sem, brkV], by rw [HF.out], hb2⟩
  | false =>
    rw [hq0] at hw0
    have HQ0 := Lib.hid hq0
    have HWW := Lib.hid hW; have HLL := Lib.hid hL; have HWR := Lib.hid hwr; have HWL := Lib.hid hwl
    obtain ⟨n, hn⟩ : ∃ n, n = t.n := ⟨_, rfl⟩
    clear hq0 hwr0 hL hwr hwl hW
    refine callsIn_of_wp_marks Tryd.func96 rfl trivial ?_ rfl
    simp only [Tryd.ntmps96, List.size_toArray, List.length_cons, List.length_nil, Nat.reduceAdd, Nat.reduceSub, Array.replicate_succ, Array.replicate_zero, List.push_toArray, List.append_toArray, List.nil_append, List.cons_append]
    gi_wp2
    refine wpIn_loop (fun a' wr => ∃ (k : Nat) (ds : List Nat) (u3 u20 u21 u22 u23 u24 u25 u26 u50 : Value), k ≤ t.n ∧ WbI w b wr ∧ (∀ D ∈ ds, w.heap.size + 2 ≤ D ∧ wr.heap[D]? = some (.deferred (some []))) ∧ ds.Nodup ∧ (∀ p ∈ wbP t k, (t.wr p.1 && !t.wr p.2) = false) ∧
      a' = { tmps := #[.pointer (some ⟨b, 0, none⟩), .pointer (some ⟨w.heap.size, 0, none⟩), .pointer (some ⟨w.heap.size + 1, 0, none⟩), u3, undef, .pointer (some ⟨b, 0, none⟩), .pointer (some ⟨b, 0, none⟩), .pointer (some ⟨b, 0, none⟩), .pointer (some ⟨b, 3, none⟩), .slice (some ⟨b0, off0, none⟩) t.n cw, .pointer (some ⟨b0, off0, none⟩), .bool false, undef, .pointer (some ⟨b, 0, none⟩), .pointer (some ⟨b, 0, none⟩), .pointer (some ⟨b, 0, none⟩), .pointer (some ⟨b, 1, none⟩), .slice pe t.n ce, .int .i64 t.n, .int .i64 k, u20, u21, u22, u23, u24, u25, u26, undef, undef, undef, undef, undef, undef, undef, undef, undef, undef, undef, undef, undef, undef, undef, undef, undef, undef, undef, undef, undef, undef, undef, u50, undef], defers := marks ds }) (fun a' _ => t.n - (intOf (a'.tmps.getD 19 undef)).toNat) ?start ?round
    case start =>
      exact ⟨0, [], undef, undef, undef, undef, undef, undef, undef, undef, undef, Nat.zero_le _, ⟨by simp [go_sem], by simp [go_sem], by simp [go_sem], by simp [go_sem], fun o ho => (by rcases (show o = 0 ∨ o = 1 ∨ o = 2 by omega) with rfl | rfl | rfl <;> simp [go_sem]), ((Below.refl _ _).alloc (Nat.le_refl _) _).alloc (by simp) _⟩, by simp, by simp, by simp [wbP], rfl⟩
    case round =>
      rintro _ wr ⟨k, ds, u3, u20, u21, u22, u23, u24, u25, u26, u50, hk, hI, hD, hnd, hP, rfl⟩
      by_cases hlt : k < t.n
      · have hm0 : w.heap.size < wr.heap.size := cell_lt hI.p
        have hm1 : w.heap.size + 1 < wr.heap.size := cell_lt hI.r0
        obtain ⟨A, hA⟩ : ∃ A, A = wr.heap.size := ⟨_, rfl⟩
        obtain ⟨W2, hW2⟩ : ∃ W2, W2 = (wr.alloc (.cells #[.int .i64 (k : Int)] 3)).alloc (.cells #[.int .i64 (k : Int)] 3) := ⟨_, rfl⟩
        have b2 : Below wr.heap.size wr W2 := by rw [hW2]; exact ((Below.refl _ _).alloc (Nat.le_refl _) _).alloc (by simp) _
        have bw2 := hI.below.trans (b2.mono hI.below.size)
        have s2 : RdI W2 (.slice (some ⟨wr.heap.size + 1, 0, none⟩) 1 1) (ints [k]) := rdI_one (by rw [hW2]; simp [go_sem])
        have C2 := Lib.hid (above_any b t _ [k] W2 (HWW.out.below bw2) s2 (by intro x hx; simp at hx; omega))
        have kA2 : W2.cell? ⟨A, 0, none⟩ = some (.int .i64 k) := by rw [hW2, hA]; simp [go_sem]
        have z2 : W2.heap.size = A + 2 := by rw [hW2, hA]; simp
        have p0 := hI.p
        obtain ⟨G, hG⟩ : ∃ G, G = upsG t [k] := ⟨_, rfl⟩
        rw [← hG] at C2
        have HG := Lib.hid hG; have HI := Lib.hid hI; have HW2 := Lib.hid hW2; have HA := Lib.hid hA; have HD := Lib.hid hD; have HND := Lib.hid hnd; have HP := Lib.hid hP; have HB2 := Lib.hid b2; have Z2 := Lib.hid z2
        clear hG hI hW2 hA hD hnd hP s2 b2 bw2 z2
        gi_wp2_with fail
        refine ⟨trivial, ?_⟩
        rw [← HW2.out]
        refine (callsIn_wide.2 C2.out).mono ?_
        rintro e w1 ⟨rfl, hb1⟩
        have kA1 := (hb1.cell (cell_lt kA2)).trans kA2
        gi_wp2_with (refine ⟨trivial, ?_⟩; gi_at_call 80; refine (callsIn_wide.2 (each_any _ _)).mono ?_; rintro e w' ⟨rfl, rfl⟩)
        rw [← HA.out]
        obtain ⟨q, hq⟩ : ∃ q, q = w1.heap.size := ⟨_, rfl⟩
        obtain ⟨W5, hW5⟩ : ∃ W5, W5 = w1.alloc (Obj.cells #[Value.int IntKind.u16 ↑G] 72) := ⟨_, rfl⟩
        rw [← hW5, ← hq]
        have b5' : Below w1.heap.size w1 W5 := by rw [hW5]; exact (Below.refl _ _).alloc (Nat.le_refl _) _
        have z5 : W5.heap.size = q + 1 := by rw [hW5, hq]; simp
        have E5 : W5.cell? ⟨q, 0, none⟩ = some (.int .u16 G) := by rw [hW5, hq]; simp [go_sem]
        have b15 : Below wr.heap.size wr W5 := HB2.out.trans ((hb1.trans (b5'.mono hb1.size)).mono HB2.out.size)
        have kA5 : W5.cell? ⟨A, 0, none⟩ = some (.int .i64 k) := (b5'.cell (cell_lt kA1)).trans kA1
        have hqA : A + 2 ≤ q := by rw [hq]; have := hb1.size; have := Z2.out; omega
        have I5 : WbI w b W5 := HI.out.mono b15
        have hD5 : ∀ D ∈ ds, w.heap.size + 2 ≤ D ∧ D < A ∧ W5.heap[D]? = some (.deferred (some [])) := fun D hDm => by
          obtain ⟨d1, d2⟩ := HD.out D hDm
          have d3 : D < wr.heap.size := (Array.getElem?_eq_some_iff.1 d2).1
          exact ⟨d1, by rw [HA.out]; exact d3, (b15.block D d3).trans d2⟩
        have t5 : TabOk W5 := HLL.out.block (I5.below.block _ HLL.out.lt)
        have htab := HLL.out.lt
        have hG16 : G < 65536 := by rw [HG.out]; exact ups_lt t _ n2
        have hels : elems G 16 = ups t.R t.n [k] := by rw [HG.out]; exact elems_ups t.R [k] (by omega)
        have hAm : w.heap.size + 2 ≤ A := by rw [HA.out]; omega
        have HE := Lib.hid hels; have Z5 := Lib.hid z5; have HD5 := Lib.hid hD5
        clear hW5 hq hb1 kA1 kA2 b5' b15 hels z5 hD5 p0
        refine range_till (F := Fence.wide) (gf := 112) (lb := #[.pointer (some ⟨q, 0, none⟩)]) (n := N) rfl (by omega) rfl trivial (enters_of Tryd.func112 (by kernel_rfl) rfl)
          (each_iter (N - 1) (by omega) q G W5 hG16 E5 t5) (Below.refl _ _) (fun _ => rfl)
          (fun k => k = q + 1 ∨ k = q + 2) ?hZ ?hZ0 ?hZ1 (fun k => k = 1 ∨ k = q + 1 ∨ k = q + 2) ?hY ?hY0 ?hY1
          (fun pre V => WbI w b V ∧ V.cell? ⟨A, 0, none⟩ = some (.int .i64 k) ∧ Hid (∀ D ∈ ds, V.heap[D]? = some (.deferred (some []))) ∧ Hid (∀ x ∈ pre, (t.wr k && !t.wr x) = false)) ?hI
          (fun cd pre V => cd = .ret ∧ ∃ x : Nat, wbF t.R t.n t.wr = (5, k, x) ∧ V.cell? ⟨w.heap.size + 1, 0, none⟩ = some (.int .u8 5) ∧ V.cell? ⟨w.heap.size + 1, 1, none⟩ = some (.int .i64 k) ∧ V.cell? ⟨w.heap.size + 1, 2, none⟩ = some (.int .i64 x) ∧ Below w.heap.size w V ∧ Hid (∀ D ∈ ds, V.heap[D]? = some (.deferred (some [])))) ?hIx ⟨I5, kA5, fun D hDm => (HD5.out D hDm).2.2, fun x hx => by simp at hx⟩
          (fun pre x a' V => (WbI w b V ∧ V.cell? ⟨A, 0, none⟩ = some (.int .i64 k) ∧ Hid (∀ D ∈ ds, V.heap[D]? = some (.deferred (some []))) ∧ Hid (∀ x ∈ pre, (t.wr k && !t.wr x) = false)) ∧
            ∃ v3 v20 v21 v22 v23 v24 v25 v26 v50, v3 = .pointer (some ⟨A, 0, none⟩) ∧ a' = { tmps := #[.pointer (some ⟨b, 0, none⟩), .pointer (some ⟨w.heap.size, 0, none⟩), .pointer (some ⟨w.heap.size + 1, 0, none⟩), v3, .int .i64 x, .pointer (some ⟨b, 0, none⟩), .pointer (some ⟨b, 0, none⟩), .pointer (some ⟨b, 0, none⟩), .pointer (some ⟨b, 3, none⟩), .slice (some ⟨b0, off0, none⟩) t.n cw, .pointer (some ⟨b0, off0, none⟩), .bool false, undef, .pointer (some ⟨b, 0, none⟩), .pointer (some ⟨b, 0, none⟩), .pointer (some ⟨b, 0, none⟩), .pointer (some ⟨b, 1, none⟩), .slice pe t.n ce, .int .i64 t.n, .int .i64 k, v20, v21, v22, v23, v24, v25, v26, .int .i64 x, undef, undef, undef, undef, undef, undef, undef, undef, undef, undef, undef, undef, undef, undef, undef, undef, undef, undef, undef, undef, undef, undef, v50, undef], defers := [] })
          ?hAx ?assign ?body ?hYb ?done ?stop
        case hZ => rintro W1 h1 k hk; exact hk.elim
        case hZ0 => have := Z5.out; omega
        case hZ1 => have := Z5.out; omega
        case hY => rintro W1 h1 k hk; have := Z5.out; have hk' : k = 1 := hk; exact ⟨.inl hk', by omega⟩
        case hY0 => have := Z5.out; omega
        case hY1 => have := Z5.out; omega
        case hYb => rintro W1 h1 k hk; have := Z5.out; rcases hk with hk | hk | hk
                    · exact .inl hk
                    · exact .inr (by omega)
                    · exact .inr (by omega)
        case hI =>
          rintro pre X Y ⟨a1, a2, a3, a4⟩ hd
          exact ⟨a1.diff hd (fun j hj => by omega), cell_diff a2 hd (by omega), fun D hDm => by
            have d0 := HD5.out D hDm
            rw [hd.block D (Array.getElem?_eq_some_iff.1 (a3.out D hDm)).1 (by omega)]; exact a3.out D hDm, a4⟩
        case hIx =>
          rintro cd pre X Y ⟨h0, x, h1, h2, h3, h4, h5, h6⟩ hd
          exact ⟨h0, x, h1, cell_diff h2 hd (by omega), cell_diff h3 hd (by omega), cell_diff h4 hd (by omega), h5.trans (hd.below h5.size (by omega)), fun D hDm => by
            have d0 := HD5.out D hDm
            rw [hd.block D (Array.getElem?_eq_some_iff.1 (h6.out D hDm)).1 (by omega)]; exact h6.out D hDm⟩
        case hAx =>
          rintro pre x a' X Y ⟨⟨a1, a2, a3, a4⟩, ha⟩ hd
          exact ⟨⟨a1.diff hd (fun j hj => by omega), cell_diff a2 hd (by omega), fun D hDm => by
            have d0 := HD5.out D hDm
            rw [hd.block D (Array.getElem?_eq_some_iff.1 (a3.out D hDm)).1 (by omega)]; exact a3.out D hDm, a4⟩, ha⟩
        case assign =>
          rintro l' pre x V K hpre hh hbnd hK
          gi_wp2
          exact hK _ _ (Keep.refl _ _) ⟨hh, _, _, _, _, _, _, _, _, _, rfl, rfl⟩
        case body =>
          rintro l' pre x a' V hpre ⟨⟨a1, a2, a3, a4⟩, v3, v20, v21, v22, v23, v24, v25, v26, v50, rfl, rfl⟩ hbnd
          have hxe : x ∈ ups t.R t.n [k] := by
            rw [← HE.out]; obtain ⟨r, hr⟩ := hpre; rw [← hr]; simp
          have hxn := (mem_ups.1 hxe).1
          have hWV := HWW.out.below a1.below
          obtain ⟨ve, va, vw, q0, q1, q2, q3, q4⟩ := hWV.cells
          have c3 : V.cell? ⟨b, 3, none⟩ = some (.slice (some ⟨b0, off0, none⟩) t.n cw) := (a1.below.cell lb).trans hw
          have hcw : ∀ j, j < t.n → V.cell? ⟨b0, off0 + j, none⟩ = some (.bool (t.wr j)) := fun j hj => by
            obtain ⟨b', o', e1, e2⟩ := (HWR.out.below a1.below).cell (i := j) (by have := HWL.out; unfold Tab.n at hj; omega)
            simp only [Option.some.injEq, Addr.mk.injEq, and_true] at e1
            obtain ⟨rfl, rfl⟩ := e1
            exact e2
          have ck := hcw k hlt
          have cx := hcw x hxn
          have p0 := a1.p; have r0 := a1.r0; have r1 := a1.r1; have r2 := a1.r2
          have f0 := a1.f 0 (by decide); have f1 := a1.f 1 (by decide); have f2 := a1.f 2 (by decide)
          have HA1 := Lib.hid a1
          have hbn1 := Lib.hid hbnd
          clear hWV q0 q1 q2 q3 q4 hcw a1 hxe hbnd
          cases hq : (t.wr k && !t.wr x) with
          | false =>
            have H4 : Hid (∀ y ∈ pre ++ [x], (t.wr k && !t.wr y) = false) := fun y hy => by
              rcases List.mem_append.1 hy with hy | hy
              · exact a4.out y hy
              · rw [List.mem_singleton.1 hy]; exact hq
            have hgo : Hid (∀ nq, Keep (fun k => k = 1 ∨ k = q + 1 ∨ k = q + 2) V (V.drewN nq) ∧ WbI w b (V.drewN nq) ∧ (V.drewN nq).cell? ⟨A, 0, none⟩ = some (.int .i64 k) ∧ Hid (∀ D ∈ ds, (V.drewN nq).heap[D]? = some (.deferred (some [])))) := fun nq =>
              ⟨Keep.of_below (below_drewAt _ _ _), HA1.out.mono (below_drewAt _ _ _), by rw [World.cell?_drewN]; exact a2, fun D hDm => a3.out D hDm⟩
            have hkk : t.wr k = false ∨ t.wr k = true := by cases t.wr k <;> simp
            rcases hkk with hk1 | hk1
            · rw [hk1] at ck
              clear hq hk1 cx
              gi_wp2
              refine region_quiet_round rfl (by kernel_rfl) (by kernel_rfl) (by kernel_rfl) ?_
              repeat (quiet_step_in (fail))
              refine wpQuietIn_nil ?_
              intro _ hw'
              obtain ⟨nq, hw''⟩ := hw'
              subst hw''
              gi_wp2
              obtain ⟨y1, y2, y3, y4⟩ := hgo.out nq
              exact ⟨y1, y2, y3, y4, H4⟩
            · have hx1 : t.wr x = true := by rw [hk1] at hq; simpa using hq
              rw [hk1] at ck; rw [hx1] at cx
              clear hq hk1 hx1
              gi_wp2
              refine region_quiet_round rfl (by kernel_rfl) (by kernel_rfl) (by kernel_rfl) ?_
              repeat (quiet_step_in (fail))
              refine wpQuietIn_nil ?_
              intro _ hw'
              obtain ⟨nq, hw''⟩ := hw'
              subst hw''
              gi_wp2
              obtain ⟨y1, y2, y3, y4⟩ := hgo.out nq
              exact ⟨y1, y2, y3, y4, H4⟩
          | true =>
            have hk1 : t.wr k = true := by revert hq; cases t.wr k <;> simp
            have hx1 : t.wr x = false := by revert hq; cases t.wr x <;> simp [hk1]
            have HX : Hid (wbF t.R t.n t.wr = (5, k, x)) := by
              obtain ⟨r, hr⟩ := hpre
              rw [HE.out] at hr
              exact wb_yes HQ0.out hlt HP.out hr a4.out hq
            rw [hk1] at ck; rw [hx1] at cx
            have hm1' : w.heap.size + 1 ≠ 1 := by omega
            clear hq hk1 hx1
            gi_wp2
            refine region_quiet_round rfl (by kernel_rfl) (by kernel_rfl) (by kernel_rfl) ?_
            repeat (quiet_step_in (fail))
            refine wpQuietIn_nil ?_
            intro _ hw'
            obtain ⟨nq, hw''⟩ := hw'
            subst hw''
            gi_wp2
            obtain ⟨s1, s2, s3⟩ := set3_cells (V := V.drewN nq) (B := w.heap.size + 1) (.int .u8 5) (.int .i64 k) (.int .i64 x) (by rw [World.cell?_drewN, r0]; rfl) (by rw [World.cell?_drewN, r1]; rfl) (by rw [World.cell?_drewN, r2]; rfl)
            have s4 := set3_diff (V := V.drewN nq) (B := w.heap.size + 1) (.int .u8 5) (.int .i64 k) (.int .i64 x)
            have s5 : Diff (fun k => k = w.heap.size + 1) V _ := (Below.diff (below_drewAt _ V nq) _).trans s4
            refine ⟨⟨s5.size, fun j hj hz => s5.block j hj (by rintro rfl; omega)⟩, rfl, x, HX.out, s1, s2, s3, HA1.out.below.trans (s5.below HA1.out.below.size (fun j hj => by omega)), fun D hDm => ?_⟩
            have d0 := HD5.out D hDm
            have d1 := a3.out D hDm
            rw [s5.block D (Array.getElem?_eq_some_iff.1 d1).1 (by omega)]; exact d1
        case done =>
          rintro V ⟨a1, a2, a3, a4⟩ hK
          have HP4 : Hid (∀ p ∈ wbP t (k + 1), (t.wr p.1 && !t.wr p.2) = false) := fun p hp => by
            rw [wbP_succ, List.mem_append] at hp
            rcases hp with hp | hp
            · exact HP.out p hp
            · rw [List.mem_map] at hp
              obtain ⟨c, hc, rfl⟩ := hp
              exact a4.out c (by rw [HE.out]; exact hc)
          clear a4
          gi_wp2
          refine ⟨⟨k + 1, W5.heap.size :: ds, _, _, _, _, _, _, _, _, _, by omega, a1, fun D hDm => ?_, ?_, HP4.out, rfl⟩, ?_⟩
          · rcases List.mem_cons.1 hDm with h | h
            · rw [h]; exact ⟨by have := Z5.out; omega, hK⟩
            · exact ⟨(HD5.out D h).1, a3.out D h⟩
          · rw [List.nodup_cons]
            exact ⟨fun h => by have := (HD5.out _ h).2.1; have := Z5.out; omega, HND.out⟩
          · simp [intOf]; omega
        case stop =>
          rintro cd pre x V hpre ⟨rfl, x, h1, h2, h3, h4, h5, h6⟩ hK
          have HF : Hid (wbF t.R t.n t.wr = (5, k, x)) := h1
          clear h1
          gi_wp2
          show LeavesInM _ _ _ _ _ _ (marks (W5.heap.size :: ds)) _ V
          refine leaves_marks (by simp) (W5.heap.size :: ds) V (fun D hDm => ?_) ?_ (fun U hd => ?_)
          · rcases List.mem_cons.1 hDm with h | h
            · rw [h]; exact hK
            · exact h6.out D h
          · rw [List.nodup_cons]
            exact ⟨fun h => by have := (HD5.out _ h).2.1; have := Z5.out; omega, HND.out⟩
          · have hz : ∀ j, j < w.heap.size + 2 → ¬ j ∈ (W5.heap.size :: ds) := fun j hj hm => by
              rcases List.mem_cons.1 hm with h | h
              · have := Z5.out; omega
              · have := (HD5.out _ h).1; omega
            have u1 := cell_diff h2 hd (hz _ (by omega))
            have u2 := cell_diff h3 hd (hz _ (by omega))
            have u3 := cell_diff h4 hd (hz _ (by omega))
            exact ⟨brkV (5, k, x), by simp [results, Tryd.results96, go_sem, u1, u2, u3, brkV], by rw [HF.out], h5.trans (hd.below h5.size (fun j hj => hz j (by omega)))⟩
      · have HF : Hid (wbF t.R t.n t.wr = (0, 0, 0)) := wb_no HQ0.out (by rw [show t.n = k by omega]; exact hP)
        have p0 := hI.p; have r0 := hI.r0; have r1 := hI.r1; have r2 := hI.r2
        have f0 := hI.f 0 (by decide); have f1 := hI.f 1 (by decide); have f2 := hI.f 2 (by decide)
        have HI := Lib.hid hI; have HD := Lib.hid hD; have HND := Lib.hid hnd
        clear hI hD hnd hP
        gi_wp2
        show LeavesInM _ _ _ _ _ _ (marks ds) _ _
        obtain ⟨s1, s2, s3⟩ := set3_cells (V := wr) (B := w.heap.size + 1) (.int .u8 0) (.int .i64 0) (.int .i64 0) (by rw [r0]; rfl) (by rw [r1]; rfl) (by rw [r2]; rfl)
        have s4 := set3_diff (V := wr) (B := w.heap.size + 1) (.int .u8 0) (.int .i64 0) (.int .i64 0)
        refine leaves_marks (by simp) ds _ (fun D hDm => ?_) HND.out (fun U hd => ?_)
        · have d0 := HD.out D hDm
          rw [s4.block D (Array.getElem?_eq_some_iff.1 d0.2).1 (by omega)]; exact d0.2
        · have hz : ∀ j, j < w.heap.size + 2 → ¬ j ∈ ds := fun j hj hm => by
            have := (HD.out _ hm).1; omega
          have u1 := cell_diff s1 hd (hz _ (by omega))
          have u2 := cell_diff s2 hd (hz _ (by omega))
          have u3 := cell_diff s3 hd (hz _ (by omega))
          have hb3 := HI.out.below.trans (s4.below HI.out.below.size (fun j hj => by omega))
          exact ⟨brkV (0, 0, 0), by simp [results, Tryd.results96, go_sem, u1, u2, u3, brkV], by rw [HF.out], hb3.trans (hd.below hb3.size (fun j hj => hz j (by omega)))⟩
end Go.Proofs.YtfhnigpjmljhbaaDoor.Or
