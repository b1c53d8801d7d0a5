/- The reference's Bounds and Least. -/
import Derived.Test.YtfhnigpjmljhbaaDoorOrFc
set_option linter.unusedVariables false
set_option linter.unusedSimpArgs false
namespace Go.Proofs.YtfhnigpjmljhbaaDoor.Or
open Go.RowKit Go.Shelf

theorem find_at_get {p : Nat → Bool} : ∀ {L : List Nat} {i : Nat}, i < L.length → (∀ j, j < i → p (L.getD j 0) = false) → p (L.getD i 0) = true → L.find? p = some (L.getD i 0)
  | [], i, hi, _, _ => by simp at hi
  | x :: L, 0, _, _, hp => by simp only [List.getD_cons_zero] at hp ⊢; rw [List.find?_cons_of_pos hp]
  | x :: L, i + 1, hi, h, hp => by
    have h0 := h 0 (by omega)
    simp only [List.getD_cons_zero] at h0
    rw [List.find?_cons_of_neg (by rw [h0]; simp)]
    simp only [List.getD_cons_succ] at hp ⊢
    exact find_at_get (by simpa using hi) (fun j hj => by have := h (j + 1) (by omega); simpa using this) hp
theorem find_none_get {p : Nat → Bool} {L : List Nat} (h : ∀ j, j < L.length → p (L.getD j 0) = false) : L.find? p = none := by
  rw [List.find?_eq_none]
  intro x hx
  obtain ⟨j, hj, rfl⟩ := List.getElem_of_mem hx
  have := h j hj
  simp only [List.getD_eq_getElem?_getD, hj, List.getElem?_eq_getElem, Option.getD_some] at this
  simp [this]
theorem rd_ints {w : World} {p : Option Addr} {m cap : Nat} {L : List Nat} (h : Rd w (.slice p m cap) (intsV L)) (h0 : 0 < L.length) : ∃ b off, p = some ⟨b, off, none⟩ ∧ ∀ j, j < L.length → w.cell? ⟨b, off + j, none⟩ = some (.int .i64 ((L.getD j 0 : Nat) : Int)) := by
  obtain ⟨p', cap', he, hl, h1⟩ := h
  simp only [Value.slice.injEq] at he
  obtain ⟨rfl, _, _⟩ := he
  rcases h1 with h1 | ⟨b, off, rfl, hc⟩
  · rw [intsV_len] at h1; omega
  · refine ⟨b, off, rfl, fun j hj => ?_⟩
    rw [hc j (by rw [intsV_len]; exact hj)]
    simp [intsV, List.getD_eq_getElem?_getD, hj]

set_option maxRecDepth 100000 in
set_option maxHeartbeats 8000000 in
theorem bounds_any (R : Nat → Nat → Bool) (n a b : Nat) (v : Value) (w : World) (hv : RelIn w v n (bel R)) (n12 : n ≤ 12) (ha : a < n) (hb : b < n) :
    Calls Tryd.prog 116 #[v, .int .i64 a, .int .i64 b] w fun e w' => ∃ v', e = .returned v' ∧ Rd w' v' (intsV (bothF R a b n)) ∧ Below w.heap.size w w' := by
  obtain ⟨i0, hi, hz0, hz1, hz2⟩ := info_parts infoI
  obtain ⟨p, cap, rfl, hrel⟩ := hv
  obtain ⟨bm, om, rfl, hrows⟩ := hrel (by omega)
  obtain ⟨ba, oa, ca, ha1, ha2⟩ := hrows a ha
  obtain ⟨bb, ob, cb, hb1, hb2⟩ := hrows b hb
  have KS : Hid (∀ U, Below w.heap.size w U → U.cell? ⟨bm, om + a, none⟩ = some (.slice (some ⟨ba, oa, none⟩) n ca) ∧ U.cell? ⟨bm, om + b, none⟩ = some (.slice (some ⟨bb, ob, none⟩) n cb) ∧ ∀ c, c < n → U.cell? ⟨ba, oa + c, none⟩ = some (.bool (bel R a c)) ∧ U.cell? ⟨bb, ob + c, none⟩ = some (.bool (bel R b c))) := fun U h =>
    ⟨(h.cell (cell_lt ha1)).trans ha1, (h.cell (cell_lt hb1)).trans hb1, fun c hc => ⟨(h.cell (cell_lt (ha2 c hc))).trans (ha2 c hc), (h.cell (cell_lt (hb2 c hc))).trans (hb2 c hc)⟩⟩
  clear hrel hrows ha1 ha2 hb1 hb2
  go_enter Tryd.func116, Tryd.ntmps116
  go_wp2
  go_loopw [7, 8] (fun v i wr => ∃ c : Nat, c ≤ n ∧ i = .int .i64 c ∧ wr.ownsRow w.heap.size 3 1 v (bothF R a b c).length (intsV (bothF R a b c)) ∧ Hid (Below w.heap.size w wr)) (fun _ i _ => n - (intOf i).toNat)
  case atStart => exact ⟨0, Nat.zero_le _, rfl, World.ownsRow_nil _ _ _ _, Below.refl _ _⟩
  case round =>
    obtain ⟨c, hcn, rfl, hrow, hbw⟩ := hrel
    obtain ⟨k1, k2, k3⟩ := KS.out _ hbw.out
    obtain ⟨ptr, cap', rfl⟩ := ownsRow_slice hrow
    have hl := both_len R a b c
    obtain ⟨m, hm⟩ : ∃ m, m = (bothF R a b c).length := ⟨_, rfl⟩
    by_cases hlt : c < n
    · obtain ⟨q1, q2⟩ := k3 c hlt
      clear k3
      rw [← hm] at hrow hl ⊢
      have HROW := Lib.hid hrow
      have HM := Lib.hid hm
      clear hrow hm
      cases h1 : bel R a c with
      | false =>
        have HN : Hid (bothF R a b (c + 1) = bothF R a b c) := by show _ = _; rw [both_snoc, h1]; simp
        rw [h1] at q1
        clear h1
        go_wp2
        go_roundw
        case rel => exact ⟨c + 1, by omega, by go_num, by rw [HN.out, ← HM.out]; exact HROW.out, hbw⟩
        case measure => simp [intOf]; omega
      | true =>
        rw [h1] at q1
        cases h2 : bel R b c with
        | false =>
          have HN : Hid (bothF R a b (c + 1) = bothF R a b c) := by show _ = _; rw [both_snoc, h1, h2]; simp
          rw [h2] at q2
          clear h1 h2
          go_wp2
          go_roundw
          case rel => exact ⟨c + 1, by omega, by go_num, by rw [HN.out, ← HM.out]; exact HROW.out, hbw⟩
          case measure => simp [intOf]; omega
        | true =>
          have HN : Hid (bothF R a b (c + 1) = bothF R a b c ++ [c]) := by show _ = _; rw [both_snoc, h1, h2]; simp
          rw [h2] at q2
          have HLT := Lib.hid HROW.out.lt
          have hs := hbw.out.size
          clear h1 h2
          go_wp2_with (at_builtin; refine wpList_append_own _ rfl _ _ 35 rfl w.heap.size 3 i0 (.int .i64 0) 1 8 Tryd.underlying35 hi hz0 hz1 hz2 rfl (by decide) _ _ _ rfl (HROW.out.alloc _) ⟨wr.heap.size, 0, none⟩ 1 1 [.int .i64 (c : Int)] rfl rfl ?c1 ?c2 (by unfold maxLen; omega) (by omega) (by simp; omega) ?_)
          case c1 => intro j u hj; match j, hj with | 0, hj => (simp at hj; subst hj; simp [Addr.add])
          case c2 => intro u hu; simp at hu; subst hu; rfl
          intro v' w' hown' hgrow _
          have HB9 := Lib.hid (Below.grown (hbw.out.alloc hbw.out.size _) hgrow (by simp; omega) (fun j hj => (HLT.out j hj).1))
          have HR9 := Lib.hid hown'
          clear hown' hgrow
          go_wp2
          go_roundw
          case rel => exact ⟨c + 1, by omega, by go_num, by rw [HN.out, List.length_append, ← HM.out, intsV, List.map_append]; exact HR9.out, HB9⟩
          case measure => simp [intOf]; omega
    · have hcn2 : c = n := by omega
      subst hcn2
      have HR : Hid (Rd wr (.slice ptr (bothF R a b c).length cap') (intsV (bothF R a b c))) := rd_own (by rw [intsV_len]; exact hrow) (by rw [intsV_len]; omega)
      clear hrow hm k3
      go_wp2
      go_ret
      exact ⟨_, rfl, HR.out, hbw.out⟩

def leastI (R : Nat → Nat → Bool) (L : List Nat) : Int := match leastF R L with
  | some j => (j : Int)
  | none => -1

set_option maxRecDepth 100000 in
set_option maxHeartbeats 8000000 in
theorem least_ref (R : Nat → Nat → Bool) (n : Nat) (L : List Nat) (v vl : Value) (w : World) (hv : RelIn w v n (bel R)) (n12 : n ≤ 12) (hl : Rd w vl (intsV L)) (hl1 : L.length ≤ 1000) (hL : ∀ j, j < L.length → L.getD j 0 < n) :
    Calls Tryd.prog 117 #[v, vl] w fun e w' => e = .returned (.int .i64 (leastI R L)) ∧ Below w.heap.size w w' := by
  obtain ⟨m, hm⟩ : ∃ m, m = L.length := ⟨_, rfl⟩
  obtain ⟨pl, cl, rfl⟩ := hl.form
  rw [intsV_len, ← hm] at hl ⊢
  obtain ⟨p, cap, rfl, hrel⟩ := hv
  have HREL := Lib.hid hrel; have HLD := Lib.hid hl; have HM := Lib.hid hm; have HLR := Lib.hid hL
  rw [← hm] at hl1
  clear hrel hl hm hL
  go_enter Tryd.func117, Tryd.ntmps117
  go_wp2
  go_loopw [5] (fun i wr => ∃ k : Nat, k ≤ m ∧ i = .int .i64 k ∧ Hid (∀ j, j < k → allF R L (L.getD j 0) m = false) ∧ Hid (Below w.heap.size w wr)) (fun i _ => m - (intOf i).toNat)
  case atStart => exact ⟨0, Nat.zero_le _, rfl, fun j hj => by omega, Below.refl _ _⟩
  case round =>
    obtain ⟨k, hkm, rfl, hno, hb⟩ := hrel
    by_cases hlt : k < m
    · have hm0 : 0 < L.length := by have := HM.out; omega
      obtain ⟨b9, o9, rfl, hcl⟩ := rd_ints HLD.out hm0
      obtain ⟨x, hx⟩ : ∃ x, x = L.getD k 0 := ⟨_, rfl⟩
      have hxn : x < n := by rw [hx]; exact HLR.out k (by have := HM.out; omega)
      obtain ⟨bm, om, rfl, hrows⟩ := HREL.out (by omega)
      obtain ⟨bx, ox, cx, hx1, hx2⟩ := hrows x hxn
      have hckw := hcl k (by have := HM.out; omega)
      rw [← hx] at hckw
      have KS : Hid (∀ U, Below w.heap.size w U → U.cell? ⟨b9, o9 + k, none⟩ = some (.int .i64 (x : Int)) ∧ U.cell? ⟨bm, om + x, none⟩ = some (.slice (some ⟨bx, ox, none⟩) n cx) ∧ (∀ j, j < m → U.cell? ⟨b9, o9 + j, none⟩ = some (.int .i64 ((L.getD j 0 : Nat) : Int))) ∧ ∀ c, c < n → U.cell? ⟨bx, ox + c, none⟩ = some (.bool (bel R x c))) := fun U h =>
        ⟨(h.cell (cell_lt hckw)).trans hckw, (h.cell (cell_lt hx1)).trans hx1, fun j hj => by have hj' := hcl j (by have := HM.out; omega); exact (h.cell (cell_lt hj')).trans hj', fun c hc => (h.cell (cell_lt (hx2 c hc))).trans (hx2 c hc)⟩
      have HX := Lib.hid hx
      clear hx hcl hrows hx1 hx2 hckw
      go_wp2_with fail
      go_loopw [6, 7] (fun al i wr2 => ∃ j : Nat, j ≤ m ∧ i = .int .i64 j ∧ al = .bool (allF R L x j) ∧ Hid (Below w.heap.size w wr2)) (fun _ i _ => m - (intOf i).toNat)
      case atStart => exact ⟨0, Nat.zero_le _, rfl, by simp [allF], hb⟩
      case round =>
        clear hb
        obtain ⟨j, hjm, rfl, rfl, hb2⟩ := hrel
        obtain ⟨k1, k2, k3, k4⟩ := KS.out _ hb2.out
        by_cases hjm2 : j < m
        · obtain ⟨y, hy⟩ : ∃ y, y = L.getD j 0 := ⟨_, rfl⟩
          have hyn : y < n := by rw [hy]; exact HLR.out j (by have := HM.out; omega)
          have k5 := k3 j hjm2
          rw [← hy] at k5
          have k6 := k4 y hyn
          have HS : Hid (allF R L x (j + 1) = (allF R L x j && bel R x y)) := by show _ = _; rw [all_snoc R L x j (by have := HM.out; omega), hy]
          clear hy k3 k4
          cases hal : allF R L x j with
          | false =>
            have HN : Hid (allF R L x (j + 1) = false) := by show _ = _; rw [HS.out, hal]; rfl
            clear hal k1 k2 k5 k6
            go_wp2
            go_quiet (fail)
            go_wp2
            go_roundw
            case rel => exact ⟨j + 1, by omega, by go_num, by rw [HN.out], hb2.out.trans (below_drewAt _ _ _)⟩
            case measure => simp [intOf]; omega
          | true =>
            have HN : Hid (allF R L x (j + 1) = bel R x y) := by show _ = _; rw [HS.out, hal]; rfl
            clear hal
            go_wp2
            go_quiet (fail)
            go_wp2
            go_roundw
            case rel => exact ⟨j + 1, by omega, by go_num, by rw [HN.out], hb2.out.trans (below_drewAt _ _ _)⟩
            case measure => simp [intOf]; omega
        · have hjm3 : j = m := by omega
          subst hjm3
          clear k3 k4 k2
          cases hal : allF R L x j with
          | true =>
            have HF : Hid (leastI R L = (x : Int)) := by
              show _ = _
              unfold leastI leastF
              rw [find_at_get (p := fun j => L.all fun c => bel R j c) (i := k) (by have := HM.out; omega) (fun j' hj' => by have := hno.out j' hj'; unfold allF at this; rw [HM.out, List.take_length] at this; exact this) (by rw [← HX.out]; unfold allF at hal; rw [HM.out, List.take_length] at hal; exact hal), ← HX.out]
            clear hal
            go_wp2
            go_ret
            exact ⟨ret_int HF.out.symm, hb2.out⟩
          | false =>
            have HN : Hid (∀ j', j' < k + 1 → allF R L (L.getD j' 0) j = false) := fun j' hj' => by
              by_cases e : j' = k
              · subst e; rw [← HX.out]; exact hal
              · exact hno.out j' (by omega)
            clear hal k1
            go_wp2
            go_roundw
            case rel => exact ⟨k + 1, by omega, by go_num, HN, hb2⟩
            case measure => simp [intOf]; omega
    · have hkm2 : k = L.length := by have := HM.out; omega
      have HF : Hid (leastI R L = -1) := by
        show _ = _
        unfold leastI leastF
        rw [find_none_get (fun j hj => by have := hno.out j (by omega); unfold allF at this; rw [HM.out, List.take_length] at this; exact this)]
      clear hkm2
      go_wp2
      go_ret
      exact ⟨ret_int HF.out.symm, hb.out⟩
end Go.Proofs.YtfhnigpjmljhbaaDoor.Or
