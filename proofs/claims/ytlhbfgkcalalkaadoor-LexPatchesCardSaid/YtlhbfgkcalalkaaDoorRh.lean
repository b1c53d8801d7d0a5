/- The iterator of comments: where the comments of a text are. -/
import Derived.Test.YtlhbfgkcalalkaaDoorRg
set_option linter.unusedVariables false
set_option linter.unusedSimpArgs false
namespace Go.Proofs.YtlhbfgkcalalkaaDoor
open Go.RowKit Go.Shelf
attribute [local go_sem] Oper.semAt_some

/-- Where the comments of some lines are, the first of which begins at a place. -/
def comL : Nat → List (List UInt8) → List (Nat × Nat)
  | _, [] => []
  | b, line :: rest => (match Lib.indexByte line 37 with | .ofNat o => [(b + o, b + line.length)] | .negSucc _ => []) ++ comL (b + line.length + 1) rest
def offL (ls : List (List UInt8)) : Nat := (ls.map fun x => x.length + 1).sum
theorem offL_snoc (ls : List (List UInt8)) (x : List UInt8) : offL (ls ++ [x]) = offL ls + x.length + 1 := by simp [offL]; omega
theorem comL_append : ∀ (xs ys : List (List UInt8)) (b : Nat), comL b (xs ++ ys) = comL b xs ++ comL (b + offL xs) ys
  | [], ys, b => by simp [comL, offL]
  | x :: xs, ys, b => by
    have : b + offL (x :: xs) = b + x.length + 1 + offL xs := by simp [offL]; omega
    rw [List.cons_append, comL, comL, comL_append xs ys, this, List.append_assoc]
theorem comL_one (b : Nat) (x : List UInt8) : comL b [x] = match Lib.indexByte x 37 with | .ofNat o => [(b + o, b + x.length)] | .negSucc _ => [] := by
  simp [comL]
theorem splitNl_off : ∀ s : List UInt8, offL (splitNl s) = s.length + 1
  | [] => rfl
  | c :: r => by
    have ih := splitNl_off r
    by_cases hc : c = 10
    · simp only [splitNl, if_pos hc, offL, List.map_cons, List.sum_cons, List.length_nil, List.length_cons]; unfold offL at ih; omega
    · simp only [splitNl, if_neg hc]
      cases h : splitNl r with
      | nil => rw [h] at ih; simp [offL] at ih
      | cons x xs => rw [h] at ih; simp [offL] at ih ⊢; omega
theorem offL_prefix {xs ys : List (List UInt8)} (h : xs <+: ys) : offL xs ≤ offL ys := by
  obtain ⟨t, rfl⟩ := h; simp [offL]

set_option maxHeartbeats 800000 in
theorem splitSeq_any (s : ByteArray) (w : World) :
    Calls Tryd.prog 53 #[.string s, .string ⟨#[10]⟩] w fun e w' => e = .returned (.func (.func 64) #[] #[.pointer (some ⟨w.heap.size + 1, 0, none⟩), .pointer (some ⟨w.heap.size, 0, none⟩), .pointer (some ⟨w.heap.size + 1 + 1, 0, none⟩)]) ∧
      w' = ((w.alloc (.cells #[.string s] 9)).alloc (.cells #[.string ⟨#[10]⟩] 9)).alloc (.cells #[.int .i64 0] 3) := by
  go_enter Tryd.func53, Tryd.ntmps53
  go_wp2
  go_ret
  exact ⟨rfl, rfl⟩

/-- At the wide fence the depth is nothing. -/
theorem roundIn_wide {n : Nat} {P : Program} {l : Nat} {f : FuncId} {tmps : Array Value} {assign body : Code} {w : World} {R : Ending → World → Prop} (l' m : Nat) (h : RoundIn Fence.wide n P l f tmps assign body w R) : RoundIn (Fence.wide.inRound l') m P l f tmps assign body w R :=
  ⟨h.1, fun c cs _ => h.2 c cs (room_wide _)⟩

theorem cell_diff {Z : Nat → Prop} {A B : World} {b o : Nat} {v : Value} (h : A.cell? ⟨b, o, none⟩ = some v) (hd : Diff Z A B) (hz : ¬ Z b) : B.cell? ⟨b, o, none⟩ = some v :=
  (World.cell?_of_block (w := A) (hd.block b (cell_lt h) hz)).trans h
theorem frozen_diff {Z : Nat → Prop} {A B : World} {b o : Nat} {v : Value} {f : Bool} (h : A.cell? ⟨b, o, none⟩ = some v) (hf : A.frozen? ⟨b, o, none⟩ = f) (hd : Diff Z A B) (hz : ¬ Z b) : B.frozen? ⟨b, o, none⟩ = f :=
  (World.frozen?_of_block (w := A) (hd.block b (cell_lt h) hz)).trans hf
theorem cell_keep {Z : Nat → Prop} {A B : World} {b o : Nat} {v : Value} (h : A.cell? ⟨b, o, none⟩ = some v) (hd : Keep Z A B) (hz : Z b) : B.cell? ⟨b, o, none⟩ = some v :=
  (World.cell?_of_block (w := A) (hd.block b (cell_lt h) hz)).trans h
theorem frozen_keep {Z : Nat → Prop} {A B : World} {b o : Nat} {v : Value} {f : Bool} (h : A.cell? ⟨b, o, none⟩ = some v) (hf : A.frozen? ⟨b, o, none⟩ = f) (hd : Keep Z A B) (hz : Z b) : B.frozen? ⟨b, o, none⟩ = f :=
  (World.frozen?_of_block (w := A) (hd.block b (cell_lt h) hz)).trans hf

/-- The blocks of the comments' iterator that was called in W. -/
def ComZ (W : World) (k : Nat) : Prop := W.heap.size ≤ k ∧ k < W.heap.size + 7

set_option maxRecDepth 100000 in
set_option maxHeartbeats 2000000 in
theorem comments_iter (n : Nat) (hn : 6 ≤ n) (bS : Nat) (s : List UInt8) (w : World) (hs : s.length ≤ 281474976710656) (c : w.cell? ⟨bS, 0, none⟩ = some (.string (mkS s))) :
    Iter Fence.wide n Tryd.prog 52 #[.pointer (some ⟨bS, 0, none⟩)] (fun x : Nat × Nat => #[Value.agg #[.int .i64 x.1, .int .i64 x.2]]) (comL 0 (splitNl s)) ComZ w := by
  intro l J W hW hJ hY h0
  have hbS : bS < w.heap.size := cell_lt c
  have h1n : 1 ≤ n := by omega
  have h1n2 : 1 ≤ n - 1 - 1 := by omega
  have d := (hW.cell hbS).trans c
  have hsz := hW.size
  have hbW : bS < W.heap.size := by omega
  have HY := Lib.hid hY; have HJ := Lib.hid hJ
  clear hY hJ c
  refine callsIn_of_wp_marks Tryd.func52 rfl trivial ?_ rfl
  simp only [Tryd.ntmps52, List.size_toArray, List.length_cons, List.length_nil, Nat.reduceAdd, Nat.reduceSub, Array.replicate_succ, Array.replicate_zero, List.push_toArray, List.append_toArray, List.nil_append, List.cons_append]
  gi_wp2_with (refine ⟨trivial, ?_⟩; gi_at_call 53; refine (callsIn_wide.2 (splitSeq_any _ _)).mono ?_; rintro e w' ⟨rfl, rfl⟩)
  -- the world in which the range begins
  obtain ⟨W5, hW5⟩ : ∃ W5, W5 = ((((W.alloc (Obj.cells #[Value.func (Fn.yield l) #[] #[]] 95)).alloc (Obj.cells #[Value.int IntKind.i64 0] 3)).alloc (.cells #[.string (mkS s)] 9)).alloc (.cells #[.string ⟨#[10]⟩] 9)).alloc (.cells #[.int .i64 0] 3) := ⟨_, rfl⟩
  rw [← hW5]
  have z5 : W5.heap.size = W.heap.size + 5 := by rw [hW5]; simp
  have y5 : W5.cell? ⟨W.heap.size, 0, none⟩ = some (.func (.yield l) #[] #[]) := by rw [hW5]; simp [go_sem]
  have b5 : W5.cell? ⟨W.heap.size + 1, 0, none⟩ = some (.int .i64 0) := by rw [hW5]; simp [go_sem]
  have bf5 : W5.frozen? ⟨W.heap.size + 1, 0, none⟩ = false := by rw [hW5]; simp [go_sem]
  have s5 : W5.cell? ⟨W.heap.size + 1 + 1, 0, none⟩ = some (.string (mkS s)) := by rw [hW5]; simp [go_sem]
  have sf5 : W5.frozen? ⟨W.heap.size + 1 + 1, 0, none⟩ = false := by rw [hW5]; simp [go_sem]
  have p5 : W5.cell? ⟨W.heap.size + 1 + 1 + 1, 0, none⟩ = some (.string ⟨#[10]⟩) := by rw [hW5]; simp [go_sem]
  have v5 : W5.cell? ⟨W.heap.size + 1 + 1 + 1 + 1, 0, none⟩ = some (.int .i64 0) := by rw [hW5]; simp [go_sem]
  have j5 : J [] W5 := HJ.out _ _ _ h0 (by rw [hW5]; exact (((((Diff.refl _ _).alloc _).alloc _).alloc _).alloc _).alloc _)
  have Z5 := Lib.hid z5
  clear hW5 z5
  refine range_all (F := Fence.wide) (gf := 64) (lb := #[.pointer (some ⟨W.heap.size + 1 + 1 + 1, 0, none⟩), .pointer (some ⟨W.heap.size + 1 + 1, 0, none⟩), .pointer (some ⟨W.heap.size + 1 + 1 + 1 + 1, 0, none⟩)]) rfl (by omega) rfl trivial (enters_of Tryd.func64 (by kernel_rfl) rfl)
    (split_iter (n - 1) (by omega) _ _ _ s W5 hs p5 s5 v5 sf5 (by omega) (by omega)) (Below.refl _ _) (fun _ => rfl)
    (fun k => W.heap.size + 2 ≤ k ∧ k < W.heap.size + 7) ?hZ ?hZ0 ?hZ1
    (fun pre V => J (comL 0 pre) V ∧ V.cell? ⟨W.heap.size, 0, none⟩ = some (.func (.yield l) #[] #[]) ∧ V.cell? ⟨W.heap.size + 1, 0, none⟩ = some (.int .i64 (offL pre)) ∧ V.frozen? ⟨W.heap.size + 1, 0, none⟩ = false)
    ?hI ⟨j5, y5, b5, bf5⟩
    (fun pre x a' V => (J (comL 0 pre) V ∧ V.cell? ⟨W.heap.size, 0, none⟩ = some (.func (.yield l) #[] #[]) ∧ V.cell? ⟨W.heap.size + 1, 0, none⟩ = some (.int .i64 (offL pre)) ∧ V.frozen? ⟨W.heap.size + 1, 0, none⟩ = false) ∧
      a' = { tmps := #[.func (.yield l) #[] #[], .pointer (some ⟨bS, 0, none⟩), .pointer (some ⟨W.heap.size, 0, none⟩), .pointer (some ⟨W.heap.size + 1, 0, none⟩), .string (mkS x), undef, undef, .string (mkS s), .func (.func 64) #[] #[.pointer (some ⟨W.heap.size + 1 + 1 + 1, 0, none⟩), .pointer (some ⟨W.heap.size + 1 + 1, 0, none⟩), .pointer (some ⟨W.heap.size + 1 + 1 + 1 + 1, 0, none⟩)], .string (mkS x), undef, undef, undef, undef, undef, undef, undef, undef, undef, undef, undef, undef, undef, undef, undef, undef, undef, undef, undef, undef], defers := [] })
    ?hAx ?assign ?body ?hZb ?done
  case hZ => rintro W1 h1 k hk; have := Z5.out; omega
  case hZ0 => have := Z5.out; omega
  case hZ1 => have := Z5.out; omega
  case hI =>
    rintro pre A B ⟨a1, a2, a3, a4⟩ hd
    exact ⟨HJ.out _ _ _ a1 (hd.weaken fun k hk => ⟨by omega, by omega⟩), cell_diff a2 hd (by omega), cell_diff a3 hd (by omega), frozen_diff a3 a4 hd (by omega)⟩
  case hAx =>
    rintro pre x a' A B ⟨⟨a1, a2, a3, a4⟩, a5⟩ hd
    exact ⟨⟨HJ.out _ _ _ a1 (hd.weaken fun k hk => ⟨by omega, by omega⟩), cell_diff a2 hd (by omega), cell_diff a3 hd (by omega), frozen_diff a3 a4 hd (by omega)⟩, a5⟩
  case assign =>
    intro l' pre x V K hpre hi hbnd hK
    gi_wp2
    exact hK _ _ (Keep.refl _ _) ⟨hi, rfl⟩
  case body =>
    rintro l' pre x a' V hpre ⟨⟨a1, a2, a3, a4⟩, rfl⟩ hbnd
    have hoff := offL_prefix hpre
    rw [offL_snoc, splitNl_off] at hoff
    obtain ⟨b, hb⟩ : ∃ b, b = offL pre := ⟨_, rfl⟩
    rw [← hb] at a3 hoff
    have hxl : (mkS x).size = x.length := mkS_size x
    have hlen : b + (mkS x).size ≤ 281474976710656 := by omega
    have hnext : offL (pre ++ [x]) = b + (mkS x).size + 1 := by rw [offL_snoc, hxl, hb]
    have hcom := comL_append pre [x] 0
    rw [comL_one, Nat.zero_add, ← hb] at hcom
    obtain ⟨t, ht⟩ := hpre
    have hall : comL 0 (splitNl s) = comL 0 (pre ++ [x]) ++ comL (0 + offL (pre ++ [x])) t := by rw [← ht, comL_append]
    have HN := Lib.hid hnext; have HA := Lib.hid hall; have HL := Lib.hid hxl; have HBO := Lib.hid hbnd
    clear hnext hall ht hoff hb hbnd hxl
    cases hi : Lib.indexByte x 37 with
    | negSucc q =>
      rw [hi] at hcom
      simp only [List.append_nil] at hcom
      have hneg : Lib.indexByte x 37 = -1 := by have := Lib.indexByte_ge x 37; omega
      have C : Hid (∀ V m, CallsIn Fence.wide m Tryd.prog 54 #[.string (mkS x), .int .u8 37] V fun e w' => e = .returned (.int .i64 (-1)) ∧ V = w') := fun V m =>
        callsIn_wide.2 ((Tryd.strings_IndexByte (mkS x) 37 V).mono (by rintro e w' ⟨rfl, rfl⟩; exact ⟨ret_int (by rw [mkS_list]; exact hneg), rfl⟩))
      have HC := Lib.hid hcom
      clear hcom hi hneg
      gi_wp2_with (refine ⟨trivial, ?_⟩; gi_at_call 54; refine (CallsIn.inRound _ (C.out _ _)).mono ?_; rintro e w' ⟨rfl, rfl⟩)
      refine ⟨(fun _ h => (by cases h)), ?_⟩
      gi_wp2
      refine ⟨(Keep.refl _ _).setCell (by simp) _, ?_, ?_, ?_, ?_⟩
      · rw [HC.out]; exact HJ.out _ _ _ a1 ((Diff.refl _ _).setCell (by simp [ComZ]) _)
      · exact (World.cell?_of_block (w := V) (Below.heap_setCell _ _ _ _ (by simp))).trans a2
      · rw [HN.out]; exact World.cell?_setCell_same' _ _ _ (by rw [a3]; rfl)
      · rw [World.frozen?_setCell]; exact a4
    | ofNat o =>
      rw [hi] at hcom
      simp only at hcom
      have hpos : Lib.indexByte x 37 = (o : Int) := hi
      have hol : o < x.length := by
        have := (Lib.indexByte_some hpos).1
        rcases Nat.lt_or_ge o x.length with h | h
        · exact h
        · rw [List.getElem?_eq_none h] at this; cases this
      have hol2 : o ≤ (mkS x).size := by rw [HL.out]; omega
      have C : Hid (∀ V m, CallsIn Fence.wide m Tryd.prog 54 #[.string (mkS x), .int .u8 37] V fun e w' => e = .returned (.int .i64 (o : Int)) ∧ V = w') := fun V m =>
        callsIn_wide.2 ((Tryd.strings_IndexByte (mkS x) 37 V).mono (by rintro e w' ⟨rfl, rfl⟩; exact ⟨ret_int (by rw [mkS_list]; exact hpos), rfl⟩))
      have hpre2 : comL 0 pre ++ [(b + o, b + x.length)] <+: comL 0 (splitNl s) := by rw [HA.out, hcom]; exact List.prefix_append _ _
      obtain ⟨fn, tmps, assign, body, hy, hR⟩ := HY.out (comL 0 pre) (b + o, b + x.length) V hpre2 a1 (fun k hk => by
        obtain ⟨k1, k2⟩ := hk
        by_cases hk2 : W.heap.size + 2 ≤ k
        · exact HBO.out k ⟨hk2, k2⟩
        · have := cell_lt a3; have : W.heap.size + 1 < V.heap.size := this; omega)
      rw [← hcom] at hR
      have HC := Lib.hid hcom
      have hy2 : Sem.run Tryd.prog (Instr.yield l #[Value.agg #[.int .i64 ((b : Int) + (o : Int)), .int .i64 ((b : Int) + ((mkS x).size : Int))]]) V = Result.ok (Next.round l fn tmps assign body) V := by
        rw [← hy, HL.out]; simp only [Int.natCast_add]
      have HR := Lib.hid hR
      clear hcom hi hpos hpre2 hy hR
      gi_wp2_with (refine ⟨trivial, ?_⟩; gi_at_call 54; refine (CallsIn.inRound _ (C.out _ _)).mono ?_; rintro e w' ⟨rfl, rfl⟩)
      refine (roundIn_wide _ _ HR.out).mono ?_
      rintro e W3 ⟨rfl, hJ3, hk3⟩
      have e2 := cell_keep a2 hk3 ⟨Nat.le_refl _, by omega⟩
      have e3 := cell_keep a3 hk3 ⟨by omega, by omega⟩
      have e4 := frozen_keep a3 a4 hk3 ⟨by omega, by omega⟩
      gi_wp2
      refine ⟨(hk3.weaken fun k hk => ⟨by omega, by omega⟩).setCell (by simp) _, ?_, ?_, ?_, ?_⟩
      · exact HJ.out _ _ _ hJ3 ((Diff.refl _ _).setCell (by simp [ComZ]) _)
      · exact (World.cell?_of_block (w := W3) (Below.heap_setCell _ _ _ _ (by simp))).trans e2
      · rw [HN.out]; exact World.cell?_setCell_same' _ _ _ (by rw [e3]; rfl)
      · rw [World.frozen?_setCell]; exact e4
  case hZb => rintro W1 h1 k hk; have := Z5.out; omega
  case done =>
    rintro V ⟨a1, _⟩ hK
    gi_wp2
    refine ⟨by simp, .inl ⟨_, _, rfl, run_takeDeferred hK, ?_⟩⟩
    have e1 := Z5.out
    exact ⟨_, results_none rfl _ _ _, ⟨_, rfl⟩, HJ.out _ _ _ a1 ((Diff.refl _ _).putObj ⟨by omega, by omega⟩ _)⟩
end Go.Proofs.YtlhbfgkcalalkaaDoor
