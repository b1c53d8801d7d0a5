/- The contract of walk. -/
import Derived.Test.YtfhnigpjmljhbaaDoorOrZ
import Derived.StillTailTactics
set_option linter.unusedVariables false
set_option linter.unusedSimpArgs false
namespace Go.Proofs.YtfhnigpjmljhbaaDoor.Or
open Go.RowKit Go.Shelf

/-- A table that is being walked, in memory: its fields, and the rows of its steps as they are now. -/
structure WkI (w : World) (t : Tab) (ve va vw : Value) (f : Nat → Nat) (W : World) : Prop where
  c0 : W.cell? ⟨w.heap.size + 1, 0, none⟩ = some (.string (mkS t.name))
  c1 : W.cell? ⟨w.heap.size + 1, 1, none⟩ = some ve
  c2 : W.cell? ⟨w.heap.size + 1, 2, none⟩ = some va
  c3 : W.cell? ⟨w.heap.size + 1, 3, none⟩ = some vw
  rows : ∀ i, i < 12 → W.cell? ⟨w.heap.size + 1, 4 + i, none⟩ = some (.int .u16 (f i : Nat))
  frz : ∀ i, i < 12 → W.frozen? ⟨w.heap.size + 1, 4 + i, none⟩ = false
  below : Below w.heap.size w W
theorem WkI.set {w : World} {t : Tab} {ve va vw : Value} {f : Nat → Nat} {W : World} (h : WkI w t ve va vw f W) {a : Nat} (ha : a < 12) (x : Nat) : WkI w t ve va vw (fun i => if i = a then x else f i) (W.setCell ⟨w.heap.size + 1, 4 + a, none⟩ (.int .u16 (x : Nat))) :=
  ⟨by rw [cell?_setCell_ne (by omega)]; exact h.c0, by rw [cell?_setCell_ne (by omega)]; exact h.c1, by rw [cell?_setCell_ne (by omega)]; exact h.c2, by rw [cell?_setCell_ne (by omega)]; exact h.c3,
    fun i hi => by
      by_cases e : i = a
      · subst e; rw [World.cell?_setCell_same' _ _ _ (by rw [h.rows i hi]; rfl), if_pos rfl]
      · rw [cell?_setCell_ne (by omega), if_neg e]; exact h.rows i hi,
    fun i hi => by rw [World.frozen?_setCell]; exact h.frz i hi, h.below.setCell (by simp) _⟩
theorem WkI.drew {w : World} {t : Tab} {ve va vw : Value} {f : Nat → Nat} {W : World} (h : WkI w t ve va vw f W) : WkI w t ve va vw f W.drew := ⟨h.c0, h.c1, h.c2, h.c3, h.rows, h.frz, h.below.drew⟩
theorem WkI.congr {w : World} {t : Tab} {ve va vw : Value} {f g : Nat → Nat} {W : World} (h : WkI w t ve va vw f W) (e : ∀ i, i < 12 → g i = f i) : WkI w t ve va vw g W := ⟨h.c0, h.c1, h.c2, h.c3, fun i hi => by rw [e i hi]; exact h.rows i hi, h.frz, h.below⟩

/-- The row of a list of which so many numbers were read. -/
def rowJ (t : Tab) (k j : Nat) : Nat := grp (fun b => ((t.above.getD k []).take j).contains (b : Int)) t.n
def f1 (t : Tab) (k i : Nat) : Nat := if i < k then grp (t.E i) t.n else 0
def f2 (t : Tab) (k j i : Nat) : Nat := if i = k then rowJ t k j else f1 t k i
def f4 (t : Tab) (c a i : Nat) : Nat := if i < a then grp (war t.E (c + 1) i) t.n else grp (war t.E c i) t.n
theorem rowJ_zero (t : Tab) (k : Nat) : rowJ t k 0 = 0 := by
  unfold rowJ; rw [grp_eq_zero]; intro i _; simp
theorem rowJ_all (t : Tab) (k j : Nat) (h : (t.above.getD k []).length ≤ j) : rowJ t k j = grp (t.E k) t.n := by
  unfold rowJ; rw [List.take_of_length_le h]; rfl
theorem getD_get (L : List Int) (j : Nat) (hj : j < L.length) : L[j] = L.getD j 0 := by simp [List.getD_eq_getElem?_getD, hj]
theorem take_has (L : List Int) (j i b : Nat) (hj : j < L.length) (e : L.getD j 0 = (b : Int)) : ((L.take j).contains (i : Int) || i == b) = (L.take (j + 1)).contains (i : Int) := by
  rw [List.take_succ_eq_append_getElem hj, getD_get L j hj, e, Bool.eq_iff_iff]
  simp only [Bool.or_eq_true, List.contains_eq_mem, decide_eq_true_eq, beq_iff_eq, List.mem_append, List.mem_singleton]
  constructor <;> rintro (h | h)
  · exact .inl h
  · exact .inr (by omega)
  · exact .inl h
  · exact .inr (by omega)
theorem rowJ_succ (t : Tab) (k j b : Nat) (hb : b < t.n) (hj : j < (t.above.getD k []).length) (e : (t.above.getD k []).getD j 0 = (b : Int)) : rowJ t k j ||| 2 ^ b = rowJ t k (j + 1) := by
  unfold rowJ
  rw [grp_one hb, grp_or]
  refine grp_congr fun i _ => ?_
  exact take_has _ j i b hj e
theorem f4_next (t : Tab) (c : Nat) (i : Nat) (hi : i < t.n) : f4 t c t.n i = f4 t (c + 1) 0 i := by simp [f4, hi]
theorem row_out {t : Tab} (h : frmF t = true) {i : Nat} (hi : t.n ≤ i) (c : Nat) : grp (war t.E c i) t.n = 0 := by
  rw [grp_eq_zero]
  intro j _
  refine (Bool.not_eq_true _).mp fun hw => ?_
  have := (path_rng h (war_path hw)).1
  omega

set_option maxRecDepth 100000 in
set_option maxHeartbeats 4000000 in
theorem walk_any (t : Tab) (ve va vw : Value) (w : World) (hT : TabIn w ve va vw t) (hf : frmF t = true) :
    Calls Tryd.prog 53 #[tabV t ve va vw] w fun e w' => ∃ b : Nat, e = .returned (.pointer (some ⟨b, 0, none⟩)) ∧ w.heap.size ≤ b ∧ WalkedAt w' b t ∧ Below w.heap.size w w' := by
  obtain ⟨n1, n2, la, lw⟩ := frm_len hf
  obtain ⟨pe, ce, rfl⟩ := hT.e.form
  obtain ⟨pa, ca, rfl⟩ := hT.a.form
  obtain ⟨pw, cw, rfl⟩ := hT.w.form
  have hn : t.elems.length = t.n := rfl
  rw [la, hn, lw, hn] at hT
  rw [hn] at n1 n2 la lw
  rw [la, hn, lw]
  have HT := Lib.hid hT; have HF := Lib.hid hf; have HLA := Lib.hid la
  clear hT hf la lw hn
  obtain ⟨VA, hVA⟩ : ∃ VA, VA = Value.slice pa t.n ca := ⟨_, rfl⟩
  have HVA := Lib.hid hVA
  clear hVA
  unfold tabV
  go_enter Tryd.func53, Tryd.ntmps53
  go_wp2
  go_loopw [19] (fun i wr => ∃ k : Nat, k ≤ t.n ∧ i = .int .i64 k ∧ WkI w t (.slice pe t.n ce) VA (.slice pw t.n cw) (f1 t k) wr) (fun i _ => t.n - (intOf i).toNat)
  case atStart =>
    refine ⟨0, Nat.zero_le _, rfl, ⟨by simp [go_sem], by simp [go_sem], by rw [HVA.out]; simp [go_sem], by simp [go_sem], fun i hi => ?_, fun i hi => ?_, ((Below.refl _ _).alloc (Nat.le_refl _) _).alloc (by simp) _⟩⟩
    · rcases (show i = 0 ∨ i = 1 ∨ i = 2 ∨ i = 3 ∨ i = 4 ∨ i = 5 ∨ i = 6 ∨ i = 7 ∨ i = 8 ∨ i = 9 ∨ i = 10 ∨ i = 11 by omega) with rfl | rfl | rfl | rfl | rfl | rfl | rfl | rfl | rfl | rfl | rfl | rfl <;> simp [go_sem, f1]
    · rcases (show i = 0 ∨ i = 1 ∨ i = 2 ∨ i = 3 ∨ i = 4 ∨ i = 5 ∨ i = 6 ∨ i = 7 ∨ i = 8 ∨ i = 9 ∨ i = 10 ∨ i = 11 by omega) with rfl | rfl | rfl | rfl | rfl | rfl | rfl | rfl | rfl | rfl | rfl | rfl <;> simp [go_sem]
  case round =>
    obtain ⟨k, hk, rfl, hI⟩ := hrel
    by_cases hlt : k < t.n
    · obtain ⟨b', off', q, c, e1, e2, e3⟩ := HT.out.a.cell (i := k) (by have := HLA.out; omega)
      subst e1
      have lb' : b' < w.heap.size := cell_lt e2
      replace e2 := (hI.below.cell lb').trans e2
      obtain ⟨L, hL⟩ : ∃ L, L = t.above.getD k [] := ⟨_, rfl⟩
      have hasc := frm_asc HF.out (a := k) (by have := HLA.out; omega)
      rw [← hL] at e2 e3 hasc
      obtain ⟨ln, hln⟩ : ∃ ln, ln = L.length := ⟨_, rfl⟩
      have hl1 := e3.len
      rw [← hln] at e2 e3 hl1
      have h2 : WkI w t (.slice pe t.n ce) VA (.slice pw t.n cw) (f2 t k 0) wr := hI.congr fun i _ => by
        unfold f2
        by_cases e : i = k
        · rw [if_pos e, rowJ_zero, e]; simp [f1]
        · rw [if_neg e]
      have H2 := Lib.hid h2; have HL := Lib.hid hL; have HLN := Lib.hid hln; have HE3 := Lib.hid e3; have HASC := Lib.hid hasc
      clear hI h2 hL hln e3 hasc
      go_wp2
      go_loopw [26] (fun i wr2 => ∃ j : Nat, j ≤ ln ∧ i = .int .i64 j ∧ WkI w t (.slice pe t.n ce) VA (.slice pw t.n cw) (f2 t k j) wr2) (fun i _ => ln - (intOf i).toNat)
      case atStart => exact ⟨0, Nat.zero_le _, rfl, H2.out⟩
      case round =>
        clear e2
        obtain ⟨j, hj, rfl, hI2⟩ := hrel
        by_cases hlj : j < ln
        · obtain ⟨b3, off3, rfl, hc⟩ := (HE3.out.below hI2.below).cell (i := j) (by have := HLN.out; omega)
          have hjl : j < L.length := by have := HLN.out; omega
          obtain ⟨x, hx, hxn⟩ : ∃ x : Nat, L.getD j 0 = (x : Int) ∧ x < t.n := by
            have hm : L.getD j 0 ∈ L := by simp [List.getD_eq_getElem?_getD, hjl]
            have h5 := asc_mem HASC.out hm
            have hn : t.elems.length = t.n := rfl
            rw [hn] at h5
            exact ⟨(L.getD j 0).toNat, by omega, by omega⟩
          rw [hx] at hc
          have hrow := hI2.rows k (by omega)
          have hfrz := hI2.frz k (by omega)
          have hf2 : f2 t k j k = rowJ t k j := if_pos rfl
          rw [hf2] at hrow
          obtain ⟨r, hr⟩ : ∃ r, r = rowJ t k j := ⟨_, rfl⟩
          rw [← hr] at hrow
          have hr16 : r < 65536 := by rw [hr]; exact grp_lt16 _ (by omega)
          have CO : Hid (∀ W, Calls Tryd.prog 82 #[.int .i64 x] W fun e w' => e = .returned (.int .u16 ((2 ^ x : Nat) : Int)) ∧ W = w') := fun W => one_any x W (by omega)
          obtain ⟨s, hs⟩ : ∃ s, s = r ||| 2 ^ x := ⟨_, rfl⟩
          have e1 := bits16_or r (2 ^ x) hr16 (pow_lt16 (by omega))
          rw [← hs] at e1
          have hnew : s = rowJ t k (j + 1) := by rw [hs, hr]; exact rowJ_succ t k j x hxn (by rw [← HL.out]; exact hjl) (by rw [← HL.out]; exact hx)
          obtain ⟨p2, hp2⟩ : ∃ p2, p2 = 2 ^ x := ⟨_, rfl⟩
          rw [← hp2] at CO e1
          have hix := ix_row (w.heap.size + 1) k (by omega)
          have H3 : Hid (∀ W, WkI w t (.slice pe t.n ce) VA (.slice pw t.n cw) (f2 t k j) W → WkI w t (.slice pe t.n ce) VA (.slice pw t.n cw) (f2 t k (j + 1)) (W.setCell ⟨w.heap.size + 1, 4 + k, none⟩ (.int .u16 (s : Nat)))) := fun W h => (h.set (show k < 12 by omega) s).congr fun i _ => by
            unfold f2
            by_cases e : i = k
            · rw [if_pos e, if_pos e, hnew]
            · rw [if_neg e, if_neg e, if_neg e]
          have HI2 := Lib.hid hI2
          clear hr hs hnew hp2 hf2 hx hr16 hI2
          go_wp2
          go_still_tail 12, (by kernel_rfl)
          still_call ((CO.out _).mono fun _ _ h => ⟨h.1, h.2.symm⟩)
          repeat still_step
          refine wpStill_nil ?_
          have hI4 := Lib.hid (H3.out _ HI2.out).drew
          go_wp2
          exact ⟨⟨j + 1, by omega, by go_num, hI4.out⟩, by simp [intOf]; omega⟩
        · have hI3 : Hid (WkI w t (.slice pe t.n ce) VA (.slice pw t.n cw) (f1 t (k + 1)) wr) := hI2.congr fun i _ => by
            unfold f2 f1
            by_cases e : i = k
            · rw [if_pos e, if_pos (by omega), rowJ_all t k j (by rw [← HL.out]; have := HLN.out; omega), e]
            · rw [if_neg e]
              by_cases e2 : i < k
              · rw [if_pos e2, if_pos (by omega)]
              · rw [if_neg e2, if_neg (by omega)]
          clear hI2
          go_wp2
          exact ⟨⟨k + 1, by omega, by go_num, hI3.out⟩, by simp [intOf]; omega⟩
    · have h4 : WkI w t (.slice pe t.n ce) VA (.slice pw t.n cw) (f4 t 0 0) wr := hI.congr fun i _ => by
        unfold f4 f1
        rw [if_neg (by omega)]
        by_cases e : i < k
        · rw [if_pos e]; rfl
        · rw [if_neg e]; exact row_out HF.out (by omega) 0
      have c1 := hI.c1
      have H4 := Lib.hid h4
      clear hI h4
      go_wp2
      go_loopw [50] (fun i wr2 => ∃ c : Nat, c ≤ t.n ∧ i = .int .i64 c ∧ WkI w t (.slice pe t.n ce) VA (.slice pw t.n cw) (f4 t c 0) wr2) (fun i _ => t.n - (intOf i).toNat)
      case atStart => exact ⟨0, Nat.zero_le _, rfl, H4.out⟩
      case round =>
        clear c1 H4
        obtain ⟨c, hc, rfl, hI⟩ := hrel
        by_cases hlc : c < t.n
        · have c1 := hI.c1
          have HI := Lib.hid hI
          clear hI
          go_wp2
          go_loopw [59] (fun i wr3 => ∃ a : Nat, a ≤ t.n ∧ i = .int .i64 a ∧ WkI w t (.slice pe t.n ce) VA (.slice pw t.n cw) (f4 t c a) wr3) (fun i _ => t.n - (intOf i).toNat)
          case atStart => exact ⟨0, Nat.zero_le _, rfl, HI.out⟩
          case round =>
            clear c1 HI
            obtain ⟨a, ha, rfl, hI⟩ := hrel
            by_cases hla : a < t.n
            · have hrow := hI.rows a (by omega)
              have hrowc := hI.rows c (by omega)
              have hfrz := hI.frz a (by omega)
              have hfa : f4 t c a a = grp (war t.E c a) t.n := if_neg (by omega)
              have hfc : f4 t c a c = grp (war t.E c c) t.n := by
                unfold f4
                split
                · exact grp_congr fun i _ => war_turn t.E c i
                · rfl
              rw [hfa] at hrow; rw [hfc] at hrowc
              obtain ⟨ra, hra⟩ : ∃ r, r = grp (war t.E c a) t.n := ⟨_, rfl⟩
              obtain ⟨rc, hrc⟩ : ∃ r, r = grp (war t.E c c) t.n := ⟨_, rfl⟩
              rw [← hra] at hrow; rw [← hrc] at hrowc
              have hra16 : ra < 65536 := by rw [hra]; exact grp_lt16 _ (by omega)
              have hrc16 : rc < 65536 := by rw [hrc]; exact grp_lt16 _ (by omega)
              have hbit : ra.testBit c = war t.E c a c := by rw [hra, grp_bit, decide_eq_true hlc, Bool.true_and]
              have CH : Hid (∀ W, Calls Tryd.prog 65 #[.int .u16 ra, .int .i64 c] W fun e w' => e = .returned (.bool (war t.E c a c)) ∧ W = w') := fun W => by
                rw [← hbit]; exact has_any ra c W hra16 (by omega)
              have hixa := ix_row (w.heap.size + 1) a (by omega)
              have hixc := ix_row (w.heap.size + 1) c (by omega)
              have HI := Lib.hid hI
              cases hq : war t.E c a c with
              | true =>
                rw [hq] at CH
                obtain ⟨s, hs⟩ : ∃ s, s = ra ||| rc := ⟨_, rfl⟩
                have e1 := bits16_or ra rc hra16 hrc16
                rw [← hs] at e1
                have hnew : s = grp (war t.E (c + 1) a) t.n := by rw [hs, hra, hrc]; exact war_row_yes hq
                have H3 : Hid (WkI w t (.slice pe t.n ce) VA (.slice pw t.n cw) (f4 t c (a + 1)) (wr.setCell ⟨w.heap.size + 1, 4 + a, none⟩ (.int .u16 (s : Nat))).drew) := ((hI.set (show a < 12 by omega) s).congr fun i _ => by
                  unfold f4
                  by_cases e : i = a
                  · rw [if_pos (by omega), if_pos e, hnew, e]
                  · rw [if_neg e]
                    by_cases e2 : i < a
                    · rw [if_pos e2, if_pos (by omega)]
                    · rw [if_neg e2, if_neg (by omega)]).drew
                clear hra hrc hra16 hrc16 hbit hs hnew hfa hfc hI hq
                go_wp2_with (go_at_call 65; refine (CH.out _).mono ?_; rintro e w' ⟨rfl, rfl⟩)
                go_still_tail 16, (by kernel_rfl)
                go_wp2
                exact ⟨⟨a + 1, by omega, by go_num, H3.out⟩, by simp [intOf]; omega⟩
              | false =>
                rw [hq] at CH
                have H3 : Hid (WkI w t (.slice pe t.n ce) VA (.slice pw t.n cw) (f4 t c (a + 1)) wr) := hI.congr fun i _ => by
                  unfold f4
                  by_cases e : i = a
                  · rw [if_pos (by omega), if_neg (by omega), e]; exact (war_row_no hq).symm
                  · by_cases e2 : i < a
                    · rw [if_pos e2, if_pos (by omega)]
                    · rw [if_neg e2, if_neg (by omega)]
                clear hra hrc hra16 hrc16 hbit hfa hfc hI hq
                go_wp2_with (go_at_call 65; refine (CH.out _).mono ?_; rintro e w' ⟨rfl, rfl⟩)
                exact ⟨⟨a + 1, by omega, by go_num, H3.out⟩, by simp [intOf]; omega⟩
            · have H3 : Hid (WkI w t (.slice pe t.n ce) VA (.slice pw t.n cw) (f4 t (c + 1) 0) wr) := hI.congr fun i _ => by
                unfold f4
                rw [if_neg (by omega)]
                by_cases e : i < a
                · rw [if_pos e]
                · rw [if_neg e, row_out HF.out (by omega), row_out HF.out (by omega)]
              clear hI
              go_wp2
              exact ⟨⟨c + 1, by omega, by go_num, H3.out⟩, by simp [intOf]; omega⟩
        · have HWk : Hid (WalkedAt wr (w.heap.size + 1) t) := ⟨HF.out, ⟨_, _, _, hI.c0, hI.c1, by rw [← HVA.out]; exact hI.c2, hI.c3, HT.out.below hI.below⟩, fun a ha => by
            have := hI.rows a (by omega)
            rw [this]
            unfold f4
            rw [if_neg (by omega), show c = t.n by omega]; rfl⟩
          have HB := Lib.hid hI.below
          clear hI
          go_wp2
          go_ret
          exact ⟨_, rfl, by omega, HWk.out, HB.out⟩
end Go.Proofs.YtfhnigpjmljhbaaDoor.Or
