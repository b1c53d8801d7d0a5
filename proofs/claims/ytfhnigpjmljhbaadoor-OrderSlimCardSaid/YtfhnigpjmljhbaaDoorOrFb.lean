/- The reference's Steps and IsBelow, at tables that have their form. -/
import Derived.Test.YtfhnigpjmljhbaaDoorOrFa
import Derived.Test.YtfhnigpjmljhbaaDoorOrBu
import Derived.Deep.CutRange
import Derived.Deep.Cut
set_option linter.unusedVariables false
set_option linter.unusedSimpArgs false
namespace Go.Proofs.YtfhnigpjmljhbaaDoor.Or
open Go.RowKit Go.Shelf

/-- Steps under way. -/
structure StI (W0 : World) (m n : Nat) (v : Value) (todo : List Nat) (seen : Nat → Bool) (wr : World) : Prop where
  row : TailRow wr (m + 2) v todo
  seen : wr.heap[m + 1]? = some (.cells (seenA n seen) 4 (0, 0))
  bel : Below (m + 1) W0 wr
theorem StI.drewN {W0 : World} {m n : Nat} {v : Value} {todo : List Nat} {seen : Nat → Bool} {wr : World} (h : StI W0 m n v todo seen wr) (k : Nat) : StI W0 m n v todo seen (wr.drewN k) := ⟨h.row, h.seen, ⟨h.bel.os, h.bel.tape, h.bel.output, h.bel.size, h.bel.block⟩⟩
theorem StI.mark {W0 : World} {m n y : Nat} {v : Value} {todo : List Nat} {seen : Nat → Bool} {wr : World} (h : StI W0 m n v todo seen wr) (hy : y < n) : StI W0 m n v todo (fun z => seen z || z == y) (wr.setCell ⟨m + 1, y, none⟩ (.bool true)) :=
  ⟨h.row.block (fun k hk _ => Below.heap_setCell _ _ _ _ (by show k ≠ m + 1; omega)), by rw [setCell_heap h.seen, seen_set hy], h.bel.setCell (Nat.le_refl _) _⟩
theorem StI.grow {W0 : World} {m n : Nat} {v v' : Value} {todo todo' : List Nat} {seen : Nat → Bool} {wr w' : World} (h : StI W0 m n v todo seen wr) (o : Obj) (hr : TailRow w' (m + 2) v' todo') (hb : Below (m + 2) (wr.alloc o) w') : StI W0 m n v' todo' seen w' := by
  have hl := heap_lt h.seen
  refine ⟨hr, ?_, (h.bel.alloc (by omega) o).trans (hb.mono (by omega))⟩
  rw [hb.block (m + 1) (by omega), heap_alloc_old h.seen]
theorem unseen_le (n : Nat) (seen : Nat → Bool) : unseen n seen ≤ n := by
  unfold unseen; have := List.length_filter_le (fun i => !seen i) (List.range n); simpa using this
def natsL (L : List Int) (k : Nat) : List Nat := (List.range k).map fun j => (L.getD j 0).toNat
theorem natsL_succ (L : List Int) (k : Nat) : natsL L (k + 1) = natsL L k ++ [(L.getD k 0).toNat] := by simp [natsL, List.range_succ]
theorem mem_natsL {L : List Int} {y : Nat} (h : (y : Int) ∈ L) : y ∈ natsL L L.length := by
  obtain ⟨j, hj, e⟩ := List.getElem_of_mem h
  unfold natsL
  rw [List.mem_map]
  exact ⟨j, List.mem_range.2 hj, by simp [List.getD_eq_getElem?_getD, hj, e]⟩

set_option maxRecDepth 100000 in
set_option maxHeartbeats 8000000 in
theorem steps_any (t : Tab) (ve va vw : Value) (a b : Nat) (w : World) (hT : TabIn w ve va vw t) (hf : frmF t = true) (ha : a < t.n) (hb : b < t.n) :
    Calls Tryd.prog 115 #[tabV t ve va vw, .int .i64 a, .int .i64 b] w fun e w' => e = .returned (.bool (t.R a b)) ∧ Below w.heap.size w w' := by
  obtain ⟨i0, hi, hz0, hz1, hz2⟩ := info_parts infoI
  obtain ⟨iB, hBi, hB0, hB1, hB2⟩ := info_parts infoBool
  obtain ⟨f1, f2, f3, f4⟩ := frm_len hf
  obtain ⟨n, hn⟩ : ∃ n, n = t.elems.length := ⟨_, rfl⟩
  obtain ⟨m, hm⟩ : ∃ m, m = w.heap.size := ⟨_, rfl⟩
  obtain ⟨pe, ce, rfl⟩ := hT.e.form
  obtain ⟨pa, ca, rfl⟩ := hT.a.form
  obtain ⟨pw, cw, rfl⟩ := hT.w.form
  rw [f3, f4] at hT
  rw [← hn] at hT
  have HPR : Hid (∀ x y, Pth t.E x y → x < n ∧ y < n) := fun x y h => by have := path_rng hf h; unfold Tab.n at this; rw [hn]; exact this
  have HRP : Hid (∀ x y, t.R x y = true ↔ Pth t.E x y) := fun x y => R_path hf
  have HER : Hid (∀ x (y : Nat), t.E x y = true ↔ (y : Int) ∈ t.above.getD x []) := fun x y => by unfold Tab.E; simp
  have HLE : Hid (∀ x, (t.above.getD x []).length ≤ 12) := fun x => above_len hf x
  have HNN : Hid (∀ x k, k < (t.above.getD x []).length → ∃ y : Nat, (t.above.getD x []).getD k 0 = y ∧ y < n) := fun x k hk => by
    have hx : x < t.above.length := by
      by_cases hx : x < t.above.length
      · exact hx
      · rw [List.getD_eq_getElem?_getD, List.getElem?_eq_none (by omega)] at hk; simp at hk
    have hm : (t.above.getD x []).getD k 0 ∈ t.above.getD x [] := by
      rw [List.getD_eq_getElem?_getD (l := t.above.getD x []), List.getElem?_eq_getElem hk]; simp
    have := asc_mem (frm_asc hf hx) hm
    exact ⟨((t.above.getD x []).getD k 0).toNat, by omega, by omega⟩
  obtain ⟨W0, hW0⟩ : ∃ W0, W0 = ((w.alloc (Obj.cells #[.string (mkS t.name), .slice pe n ce, .slice pa n ca, .slice pw n cw] 26)).alloc (.cells (madeCells #[.bool false] n) 4)).alloc (.cells #[.int .i64 a] 3) := ⟨_, rfl⟩
  have s0 : W0.heap.size = m + 3 := by rw [hW0, hm]; simp
  have b0 : Below w.heap.size w W0 := by rw [hW0]; exact (((Below.refl _ _).alloc (Nat.le_refl _) _).alloc (by simp) _).alloc (by simp; omega) _
  have c1 : W0.cell? ⟨m, 1, none⟩ = some (.slice pe n ce) := by rw [hW0, hm]; simp [go_sem]
  have c2 : W0.cell? ⟨m, 2, none⟩ = some (.slice pa n ca) := by rw [hW0, hm]; simp [go_sem]
  have hs : W0.heap[m + 1]? = some (.cells (seenA n fun _ => false) 4 (0, 0)) := by rw [hW0, hm, ← seen_made]; exact heap_alloc_old (heap_alloc_at (by simp only [alloc_size]))
  have ht : W0.heap[m + 2]? = some (.cells #[.int .i64 (a : Int)] 3 (0, 0)) := by rw [hW0, hm]; exact heap_alloc_at (by simp only [alloc_size])
  have hTW : TabIn W0 (.slice pe n ce) (.slice pa n ca) (.slice pw n cw) t := hT.below b0
  have H0 : Hid (StI W0 m n (.slice (some ⟨m + 2, 0, none⟩) 1 1) [a] (fun _ => false) W0) := ⟨tail_new ht (Nat.le_refl _), hs, Below.refl _ _⟩
  have HTW := Lib.hid hTW; have HB0 := Lib.hid b0
  have HN3 := Lib.hid (show t.above.length = n by omega)
  have hb2 : b < n := by unfold Tab.n at hb; omega
  have ha2 : a < n := by unfold Tab.n at ha; omega
  have n12 : n ≤ 12 := by omega
  have HM := Lib.hid hm
  have hi0x := HM
  have HW0' : Hid (W0 = ((w.alloc (Obj.cells #[.string (mkS t.name), .slice pe n ce, .slice pa n ca, .slice pw n cw] 26)).alloc (.cells (madeCells #[.bool false] n) 4)).alloc (.cells #[.int .i64 a] 3)) := hW0
  have HBW : Hid (∀ U, Below (m + 1) W0 U → Below w.heap.size w U) := fun U h => ⟨h.os.trans b0.os, h.tape.trans b0.tape, h.output.trans b0.output, Nat.le_trans b0.size h.size, fun k hk => (h.block k (by omega)).trans (b0.block k hk)⟩
  have KS : Hid (∀ U, Below (m + 1) W0 U → U.cell? ⟨m, 1, none⟩ = some (.slice pe n ce) ∧ U.cell? ⟨m, 2, none⟩ = some (.slice pa n ca)) := fun U h => by
    have e : ∀ o, U.cell? ⟨m, o, none⟩ = W0.cell? ⟨m, o, none⟩ := fun o => World.cell?_of_block (h.block m (by omega))
    exact ⟨(e 1).trans c1, (e 2).trans c2⟩
  have KR : Hid (∀ U, Below (m + 1) W0 U → ∀ p c (L : List Int), RdI w (.slice p L.length c) L → RdI U (.slice p L.length c) L) := fun U h p c L hr => by
    have hbU : Below w.heap.size w U := ⟨h.os.trans b0.os, h.tape.trans b0.tape, h.output.trans b0.output, Nat.le_trans b0.size h.size, fun k hk => (h.block k (by omega)).trans (b0.block k hk)⟩
    exact hr.below hbU
  have HT := Lib.hid hT
  unfold tabV
  rw [f3, f4, ← hn]
  clear hT hf ha hb hW0 hm hn b0 s0 c1 c2 hs ht hTW f1 f2 f3 f4
  go_enter Tryd.func115, Tryd.ntmps115
  go_wp2_with (at_make; refine wpList_make_row _ rfl _ _ 24 rfl 4 iB (.bool false) Tryd.underlying24 hBi hB0 hB1 rfl .i64 .i64 n rfl rfl (by rw [hB2]; omega) (by omega) ?_)
  rw [← HM.out, ← HW0'.out]
  clear hi0x
  go_loopw [8] (fun v wr => ∃ todo seen, Hid (StI W0 m n v todo seen wr) ∧ Hid (Queue t.E a seen todo) ∧ Hid (2 * unseen n seen + todo.length ≤ 25)) (fun v wr => 2 * unseenW (m + 1) wr + lenOf v)
  case atStart => exact ⟨[a], fun _ => false, H0.out, Queue.start _ _, by have := unseen_le n (fun _ => false); show _ ≤ _; simp; omega⟩
  case round =>
    obtain ⟨todo, seen, hst, hq, hm25⟩ := hrel
    obtain ⟨k1, k2⟩ := KS.out _ hst.out.bel
    have hsn := hst.out.seen
    have hmeas : Hid (unseenW (m + 1) wr = unseen n seen) := unseenW_of hsn
    cases todo with
    | nil =>
      obtain ⟨g, off, cap, rfl, hg, hcap, hel⟩ := hst.out.row.cell
      have hsb : wr.cell? ⟨m + 1, b, none⟩ = some (.bool (seen b)) := by rw [Go.Joins.cell_of_block hsn, seen_get hb2]
      have HQE : Hid (seen b = t.R a b) := by
        show _ = _
        have h1 := Queue.ends hq.out b
        have h2 := HRP.out a b
        rw [Bool.eq_iff_iff, h1, h2]
      clear hel hsn
      go_wp2
      go_ret
      exact ⟨ret_bool HQE.out, HBW.out _ hst.out.bel⟩
    | cons x rest =>
      obtain ⟨g, off, cap, rfl, hg, hcap, hel⟩ := hst.out.row.cell
      have hx0 := hel 0 (by simp)
      simp only [List.getD_cons_zero, Nat.add_zero] at hx0
      have hxn : x < n := by
        rcases hq.out.mem x (List.mem_cons_self ..) with h | h
        · rw [h]; exact ha2
        · exact (HPR.out _ _ (hq.out.path x h)).2
      have hxa : x < t.above.length := by have := HN3.out; omega
      obtain ⟨ba, oa, qx, cx, rfl, hcr, hrk⟩ := HT.out.a.cell (i := x) hxa
      have hbw := HBW.out _ hst.out.bel
      have hcr2 : wr.cell? ⟨ba, oa + x, none⟩ = some (.slice qx (t.above.getD x []).length cx) := (hbw.cell (cell_lt hcr)).trans hcr
      obtain ⟨L, hL⟩ : ∃ L, L = t.above.getD x [] := ⟨_, rfl⟩
      have HLL := Lib.hid hL
      rw [← hL] at hcr2 hrk
      obtain ⟨l, hl⟩ : ∃ l, l = L.length := ⟨_, rfl⟩
      have hl12 : l ≤ 12 := by have := HLE.out x; rw [← hL] at this; omega
      rw [← hl] at hcr2 hrk
      have HRK := Lib.hid hrk
      have HLLN := Lib.hid hl
      have hrow := hst.out.row
      obtain ⟨r1, hr1⟩ : ∃ r1, r1 = rest.length := ⟨_, rfl⟩
      have hcap2 : r1 + 1 ≤ cap := by simp at hcap; omega
      simp only [List.length_cons, ← hr1] at hrow ⊢
      have HROW := Lib.hid hrow.tail
      have HST := Lib.hid hst.out
      have hq1 := Lib.hid (Queue.pop hq.out)
      have HR1 := Lib.hid hr1
      clear hrow hl hL hcr hrk hel hst hq hcap hsn hr1
      go_wp2_with fail
      go_quiet (fail)
      go_upto_region 5 with fail
      go_cut [8] from 27 to 28 (fun v wx => wx = wr.drewN nq ∧ Hid (TailRow wr (m + 2) v rest))
      case first =>
        by_cases hc1 : cap = 1
        · have hr0 : r1 = 0 := by omega
          have HRZ : Hid (TailRow wr (m + 2) (.slice (some ⟨g, off, none⟩) 0 0) rest) := by
            obtain ⟨g', off', cap', cs, e1, e2, e3, e4, e5, e6⟩ := HST.out.row
            simp only [Value.slice.injEq, Option.some.injEq, Addr.mk.injEq] at e1
            obtain ⟨⟨rfl, rfl, _⟩, _, rfl⟩ := e1
            have hr : rest.length = 0 := by have := HR1.out; omega
            exact ⟨g, off, 0, cs, by rw [hr], e2, e3, by omega, by omega, fun j hj => by omega⟩
          subst hc1; subst hr0
          go_wp2_with fail
          go_meet
          exact ⟨rfl, HRZ⟩
        · go_wp2_with fail
          go_meet
          exact ⟨rfl, HROW.out⟩
      case rest =>
        obtain ⟨rfl, hrow⟩ := hcut
        have hst1 : Hid (StI W0 m n u8 rest seen (wr.drewN nq)) := StI.drewN ⟨hrow.out, HST.out.seen, HST.out.bel⟩ nq
        have HSL := Lib.hid HST
        have HMS : Hid (2 * unseen n seen + rest.length + 1 ≤ 2 * unseenW (m + 1) wr + (r1 + 1)) := by
          show _ ≤ _; rw [hmeas.out, HR1.out]; omega
        clear hrow hmeas HROW hbw HST hx0 hcr2 k1 k2
        go_wp2_with fail
        go_loopw [8, 10] (fun v i wr2 => ∃ k todo2 seen2, k ≤ l ∧ i = .int .i64 (k : Nat) ∧ Hid (StI W0 m n v todo2 seen2 wr2) ∧ Hid (Queue.Mid t.E a x (natsL L k) seen2 todo2) ∧ Hid (2 * unseen n seen2 + todo2.length ≤ 2 * unseen n seen + rest.length)) (fun _ i _ => l - (intOf i).toNat)
        case atStart => exact ⟨0, rest, seen, Nat.zero_le _, rfl, hst1.out, hq1.out, Nat.le_refl _⟩
        case round =>
          clear hst1 hq1
          obtain ⟨k, todo2, seen2, hkl, rfl, hst2, hq2, hm2⟩ := hrel
          have ht25 : Hid (todo2.length ≤ 1000) := by
            have h1 := hm2.out; have h2 := hm25.out
            show _ ≤ _; simp only [List.length_cons] at h2; omega
          by_cases hlt : k < l
          · have hkL : k < L.length := by have := HLLN.out; omega
            obtain ⟨y, hy, hyn⟩ : ∃ y : Nat, L.getD k 0 = y ∧ y < n := by
              have := HNN.out x k (by rw [← HLL.out]; exact hkL)
              rw [← HLL.out] at this; exact this
            have hbw2 := HBW.out _ hst2.out.bel
            obtain ⟨b9, o9, rfl, hcel⟩ := HRK.out.cells (by omega)
            have hck := hcel k hkL
            have hck2 := (hbw2.cell (cell_lt hck)).trans hck
            rw [hy] at hck2
            have hEy : Hid (t.E x y = true) := by
              refine (HER.out x y).2 ?_
              rw [← HLL.out, ← hy, List.getD_eq_getElem?_getD, List.getElem?_eq_getElem hkL]
              simp
            have HNS : Hid (natsL L (k + 1) = natsL L k ++ [y]) := by show _ = _; rw [natsL_succ, hy]; simp
            have hsn2 := hst2.out.seen
            have hsc : wr.cell? ⟨m + 1, y, none⟩ = some (.bool (seen2 y)) := by rw [Go.Joins.cell_of_block hsn2, seen_get hyn]
            have hsf : wr.frozen? ⟨m + 1, y, none⟩ = false := Go.Joins.unfrozen_of_block hsn2 y
            have lb9 : b9 < m := by have h1 := HM.out; have h2 : b9 < w.heap.size := cell_lt hck; omega
            have hne1 : b9 ≠ m + 1 := by omega
            have hne2 : m + 1 ≠ b9 := by omega
            clear hcel hck hy hbw2
            cases hs2 : seen2 y with
            | true =>
              rw [hs2] at hsc
              have HQN := Lib.hid (hq2.out.old hs2)
              clear hs2 hsn2
              go_wp2
              go_roundw
              case rel => exact ⟨k + 1, todo2, seen2, by omega, by go_num, hst2, by rw [HNS.out]; exact HQN.out, hm2⟩
              case measure => simp [intOf]; omega
            | false =>
              rw [hs2] at hsc
              have HQN := Lib.hid (hq2.out.new hEy.out)
              have HMN := Lib.hid (unseen_less hyn hs2)
              have HSM := Lib.hid (hst2.out.mark hyn)
              have hsz : m + 2 ≤ wr.heap.size := by have := heap_lt hsn2; omega
              have hrw : TailRow ((wr.setCell ⟨m + 1, y, none⟩ (.bool true)).alloc (.cells #[.int .i64 (y : Int)] 3)) (m + 2) _ todo2 := HSM.out.row.block (fun j _ hj => Below.heap_alloc _ _ _ hj)
              have HRW := Lib.hid hrw
              clear hs2 hsn2 hrw
              go_wp2_with (at_builtin; refine wpList_append_tail rfl _ _ rfl i0 hi hz0 hz1 hz2 (m + 2) _ todo2 wr.heap.size y rfl HRW.out (by simp [go_sem]) (by simp [go_sem]) ht25.out (by simp; omega) ?_)
              intro v' w' hr' hb'
              have HG := Lib.hid (HSM.out.grow _ hr' hb')
              clear hr' hb'
              go_wp2
              go_roundw
              case rel => exact ⟨k + 1, todo2 ++ [y], _, by omega, by go_num, HG.out, by rw [HNS.out]; exact HQN.out, by have h1 := HMN.out; have h2 := hm2.out; show _ ≤ _; simp only [List.length_append, List.length_cons, List.length_nil]; omega⟩
              case measure => simp [intOf]; omega
          · have hkl2 : k = L.length := by have := HLLN.out; omega
            have HQF : Hid (Queue t.E a seen2 todo2) := by
              refine hq2.out.next fun y hy => ?_
              have := (HER.out x y).1 hy
              rw [← HLL.out] at this
              rw [hkl2]; exact mem_natsL this
            have HMW : Hid (unseenW (m + 1) wr = unseen n seen2) := unseenW_of hst2.out.seen
            obtain ⟨g3, off3, cap3, rfl, _⟩ := hst2.out.row.cell
            clear hkl2
            go_wp2
            go_roundw
            case rel => exact ⟨todo2, seen2, hst2.out, HQF.out, by have h1 := hm25.out; have h2 := hm2.out; show _ ≤ _; simp only [List.length_cons] at h1; omega⟩
            case measure => have h1 := HMW.out; have h2 := hm2.out; have h3 := HMS.out; simp only [lenOf]; omega
end Go.Proofs.YtfhnigpjmljhbaaDoor.Or
