import Derived.Test.YtfhnigpjmljhbaaDoorOrU
import Derived.Sort.QuietTacIn
/- Contracts of missing, unjoined, pairs. -/
set_option linter.unusedVariables false
set_option linter.unusedSimpArgs false
namespace Go.Proofs.YtfhnigpjmljhbaaDoor.Or
open Go.RowKit Go.Shelf
attribute [local go_sem] Oper.semAt_some

/-- Whether numbers are those of elements. -/
def inF (n : Nat) (x : Int) : Bool := decide (0 ≤ x) && decide (x < n)

set_option maxRecDepth 100000 in
set_option maxHeartbeats 2000000 in
theorem missing1 (b bp : Nat) (t : Tab) (x : Int) (w : World) (hW : WalkedAt w b t) (hp : w.cell? ⟨bp, 0, none⟩ = some (.pointer (some ⟨b, 0, none⟩))) :
    Calls Tryd.prog 111 #[.int .i64 x, .pointer (some ⟨bp, 0, none⟩)] w fun e w' => e = .returned (.bool (inF t.n x)) ∧ Below w.heap.size w w' := by
  obtain ⟨pe, ce, he⟩ := hW.elems
  have hn := hW.n12
  clear hW
  by_cases h1 : 0 ≤ x
  · have g1 : decide (0 ≤ x) = true := decide_eq_true h1
    have HF : Hid (inF t.n x = decide (x < t.n)) := by show _ = _; simp [inF, h1]
    go_enter Tryd.func111, Tryd.ntmps111
    go_wp2
    go_ret
    exact ⟨ret_bool (by rw [HF.out]), Below.refl _ _⟩
  · have g1 : decide (0 ≤ x) = false := decide_eq_false h1
    have HF : Hid (inF t.n x = false) := by show _ = _; simp [inF, h1]
    go_enter Tryd.func111, Tryd.ntmps111
    go_wp2
    go_ret
    exact ⟨ret_bool (by rw [HF.out]), Below.refl _ _⟩

set_option maxRecDepth 100000 in
set_option maxHeartbeats 2000000 in
theorem missing_any (b : Nat) (t : Tab) (v : Value) (l : List Int) (w : World) (hW : WalkedAt w b t) (hv : RdI w v l) :
    Calls Tryd.prog 79 #[.pointer (some ⟨b, 0, none⟩), v] w fun e w' => e = .returned (.int .i64 (if l.all (inF t.n) then 0 else 7)) ∧ Below w.heap.size w w' := by
  obtain ⟨W2, hW2⟩ : ∃ W2, W2 = w.alloc (.cells #[.pointer (some ⟨b, 0, none⟩)] 68) := ⟨_, rfl⟩
  have b2 : Below w.heap.size w W2 := by rw [hW2]; exact (Below.refl _ _).alloc (Nat.le_refl _) _
  have c2 : W2.cell? ⟨w.heap.size, 0, none⟩ = some (.pointer (some ⟨b, 0, none⟩)) := by rw [hW2]; simp [go_sem]
  have C := everyI_st v (l.map (Value.int .i64)) 111 #[.pointer (some ⟨w.heap.size, 0, none⟩)] (fun k => inF t.n (l.getD k 0))
    (fun _ W => Below w.heap.size w W ∧ W.cell? ⟨w.heap.size, 0, none⟩ = some (.pointer (some ⟨b, 0, none⟩))) W2 (enters_of Tryd.func111 (by kernel_rfl) rfl) (fun k W h => Rd.below hv h.1) ⟨b2, c2⟩ (fun k W hk h => by
      have hk' : k < l.length := by simpa using hk
      have hx : (l.map (Value.int .i64))[k] = .int .i64 (l.getD k 0) := by simp [List.getD_eq_getElem?_getD, hk']
      rw [hx]
      refine (missing1 b w.heap.size t (l.getD k 0) W (hW.below h.1) h.2).mono ?_
      rintro e w' ⟨rfl, hb⟩
      exact ⟨rfl, h.1.trans (hb.mono h.1.size), (hb.cell (cell_lt h.2)).trans h.2⟩)
  have hall : (List.range (l.map (Value.int .i64)).length).all (fun k => inF t.n (l.getD k 0)) = l.all (inF t.n) := by
    rw [all_range l 0 (inF t.n), List.length_map]
  rw [hall] at C
  obtain ⟨p, cap, rfl⟩ := hv.form
  have HC := Lib.hid C; have HW2 := Lib.hid hW2
  clear hv C hW2 b2 c2 hall hW
  cases hq : l.all (inF t.n) with
  | true =>
    rw [hq] at HC
    clear hq
    go_enter Tryd.func79, Tryd.ntmps79
    go_wp2_with fail
    rw [← HW2.out]
    refine HC.out.mono ?_
    rintro e w' ⟨rfl, k, hj⟩
    have hb := hj.1
    clear hj
    go_wp2
    go_ret
    exact ⟨rfl, hb⟩
  | false =>
    rw [hq] at HC
    clear hq
    go_enter Tryd.func79, Tryd.ntmps79
    go_wp2_with fail
    rw [← HW2.out]
    refine HC.out.mono ?_
    rintro e w' ⟨rfl, k, hj⟩
    have hb := hj.1
    clear hj
    go_wp2
    go_ret
    exact ⟨rfl, hb⟩

set_option maxRecDepth 100000 in
set_option maxHeartbeats 2000000 in
theorem unjoined_any (b : Nat) (t : Tab) (a c : Nat) (w : World) (hW : WalkedAt w b t) (ha : a < t.n) (hc : c < t.n) :
    Calls Tryd.prog 95 #[.pointer (some ⟨b, 0, none⟩), .int .i64 a, .int .i64 c] w fun e w' => e = .returned (.int .u8 (if (ups t.R t.n [a, c]).isEmpty then 3 else 4)) ∧ Below w.heap.size w w' := by
  obtain ⟨W2, hW2⟩ : ∃ W2, W2 = w.alloc (.cells #[.int .i64 (a : Int), .int .i64 (c : Int)] 3) := ⟨_, rfl⟩
  have b2 : Below w.heap.size w W2 := by rw [hW2]; exact (Below.refl _ _).alloc (Nat.le_refl _) _
  have s2 : RdI W2 (.slice (some ⟨w.heap.size, 0, none⟩) 2 2) (ints [a, c]) := by
    refine rdI_new (ns := [a, c]) (cs := #[Value.int IntKind.i64 ↑a, Value.int IntKind.i64 ↑c]) (T := 3) (fr := (0, 0)) ?_ (by simp [ints]) (by simp) (by simp)
    rw [hW2]
    exact heap_alloc_new w _
  have C := Lib.hid (above_any b t _ [a, c] W2 (hW.below b2) s2 (by intro x hx; simp at hx; rcases hx with rfl | rfl <;> assumption))
  have hq : (((upsG t [a, c] : Nat) : Int) == 0) = (ups t.R t.n [a, c]).isEmpty := by
    rw [← no_bound t.R t.n [a, c]]
    show _ = (upsG t [a, c] == 0)
    rw [Bool.eq_iff_iff, beq_iff_eq, beq_iff_eq]; omega
  obtain ⟨G, hG⟩ : ∃ G, G = upsG t [a, c] := ⟨_, rfl⟩
  rw [← hG] at C hq
  have HW2 := Lib.hid hW2
  have HB2 := Lib.hid b2
  clear hW hW2 b2 s2 hG ha hc
  cases he : (ups t.R t.n [a, c]).isEmpty with
  | true =>
    rw [he] at hq
    clear he
    go_enter Tryd.func95, Tryd.ntmps95
    go_wp2_with fail
    rw [← HW2.out]
    refine C.out.mono ?_
    rintro e w' ⟨rfl, hb⟩
    go_wp2
    go_ret
    exact ⟨rfl, HB2.out.trans (hb.mono HB2.out.size)⟩
  | false =>
    rw [he] at hq
    clear he
    go_enter Tryd.func95, Tryd.ntmps95
    go_wp2_with fail
    rw [← HW2.out]
    refine C.out.mono ?_
    rintro e w' ⟨rfl, hb⟩
    go_wp2
    go_ret
    exact ⟨rfl, HB2.out.trans (hb.mono HB2.out.size)⟩

theorem pairs_any (b : Nat) (w : World) :
    Calls Tryd.prog 94 #[.pointer (some ⟨b, 0, none⟩)] w fun e w' => e = .returned (.func (.func 123) #[] #[.pointer (some ⟨w.heap.size, 0, none⟩)]) ∧ w' = w.alloc (.cells #[.pointer (some ⟨b, 0, none⟩)] 68) := by
  go_enter Tryd.func94, Tryd.ntmps94
  go_wp2
  go_ret
  exact ⟨rfl, rfl⟩
end Go.Proofs.YtfhnigpjmljhbaaDoor.Or

/- The iterator of pairs. -/
set_option linter.unusedVariables false
set_option linter.unusedSimpArgs false
namespace Go.Proofs.YtfhnigpjmljhbaaDoor.Or
open Go.RowKit Go.Shelf
attribute [local go_sem] Oper.semAt_some

def rowUp (a y : Nat) : List (Nat × Nat) := ((List.range y).filter fun b => decide (a < b)).map fun b => (a, b)
def flatP (n k : Nat) : List (Nat × Nat) := (List.range k).flatMap fun a => rowUp a n
theorem pairs_flat (n : Nat) : pairsL n = flatP n n := rfl
theorem flat_succ (n a : Nat) : flatP n (a + 1) = flatP n a ++ rowUp a n := by simp [flatP, List.range_succ]
theorem rowUp_start (a : Nat) : rowUp a (a + 1) = [] := by
  unfold rowUp
  rw [List.map_eq_nil_iff, List.filter_eq_nil_iff]
  intro x hx; rw [List.mem_range] at hx; simp; omega
theorem rowUp_succ {a y : Nat} (h : a < y) : rowUp a (y + 1) = rowUp a y ++ [(a, y)] := by simp [rowUp, List.range_succ, h]
theorem range_pre {k n : Nat} (h : k ≤ n) : List.range k <+: List.range n := by
  obtain ⟨d, rfl⟩ := Nat.exists_eq_add_of_le h
  exact ⟨_, (List.range_add).symm⟩
theorem pairs_pre {n a y : Nat} (h : a < y) (hy : y < n) : (flatP n a ++ rowUp a y) ++ [(a, y)] <+: pairsL n := by
  rw [List.append_assoc, ← rowUp_succ h]
  have h1 : rowUp a (y + 1) <+: rowUp a n := ((range_pre (show y + 1 ≤ n by omega)).filter _).map _
  obtain ⟨r1, hr1⟩ := h1
  obtain ⟨r2, hr2⟩ := range_pre (show a + 1 ≤ n by omega)
  have h2 : flatP n (a + 1) ++ r2.flatMap (fun a => rowUp a n) = pairsL n := by
    rw [pairs_flat]; unfold flatP; rw [← List.flatMap_append, hr2]
  rw [← h2, flat_succ, ← hr1]
  exact ⟨r1 ++ r2.flatMap (fun a => rowUp a n), by simp⟩

set_option maxRecDepth 100000 in
set_option maxHeartbeats 4000000 in
theorem pairs_iter (N : Nat) (hN : 1 ≤ N) (b bp : Nat) (t : Tab) (w : World) (hW : WalkedAt w b t) (hc : w.cell? ⟨bp, 0, none⟩ = some (.pointer (some ⟨b, 0, none⟩))) :
    IterS Fence.wide N Tryd.prog 123 #[.pointer (some ⟨bp, 0, none⟩)] (fun x : Nat × Nat => #[Value.int .i64 x.1, Value.int .i64 x.2]) (pairsL t.n) (fun _ _ => False) (fun _ k => k = bp ∨ k = b) w := by
  intro l J Jx W hWb hJ hJx hY h0
  obtain ⟨pe, ce, he⟩ := hW.elems
  have hn12 := hW.n12
  have lb := cell_lt he
  have lp := cell_lt hc
  have d0 := (hWb.cell lp).trans hc
  have d1 := (hWb.cell lb).trans he
  obtain ⟨n, hn⟩ : ∃ n, n = t.n := ⟨_, rfl⟩
  rw [← hn] at d1 hY hn12 ⊢
  have HY := Lib.hid hY
  clear hY hJ hJx hc he hW hn
  refine callsIn_of_wp Tryd.func123 rfl trivial ?_ rfl
  simp only [Tryd.ntmps123, List.size_toArray, List.length_cons, List.length_nil, Nat.reduceAdd, Nat.reduceSub, Array.replicate_succ, Array.replicate_zero, List.push_toArray, List.append_toArray, List.nil_append, List.cons_append]
  gi_wp2
  gi_loopw [11] (fun i wr => ∃ a : Nat, a ≤ n ∧ i = .int .i64 a ∧ J (flatP n a) wr ∧ wr.cell? ⟨bp, 0, none⟩ = some (.pointer (some ⟨b, 0, none⟩)) ∧ wr.cell? ⟨b, 1, none⟩ = some (.slice pe n ce)) (fun i _ => n - (intOf i).toNat)
  case atStart => exact ⟨0, Nat.zero_le _, rfl, h0, d0, d1⟩
  case round =>
    obtain ⟨a, ha, rfl, hj, c0, c1⟩ := hrel
    by_cases hlt : a < n
    · have hj1 : J (flatP n a ++ rowUp a (a + 1)) wr := by rw [rowUp_start, List.append_nil]; exact hj
      have HJ1 := Lib.hid hj1
      clear hj hj1
      gi_wp2
      gi_loopw [4] (fun i wr2 => ∃ y : Nat, a < y ∧ y ≤ n ∧ i = .int .i64 y ∧ J (flatP n a ++ rowUp a y) wr2 ∧ wr2.cell? ⟨bp, 0, none⟩ = some (.pointer (some ⟨b, 0, none⟩)) ∧ wr2.cell? ⟨b, 1, none⟩ = some (.slice pe n ce)) (fun i _ => n - (intOf i).toNat)
      case atStart => exact ⟨a + 1, by omega, by omega, by go_num, HJ1.out, c0, c1⟩
      case round =>
        obtain ⟨y, hay, hyn, rfl, hj2, k0, k1⟩ := hrel
        by_cases hly : y < n
        · obtain ⟨fn, tmps, assign, body, hyy, hR⟩ := HY.out _ (a, y) wr (pairs_pre hay hly) hj2 (fun k hk => by
            rcases hk with rfl | rfl
            · exact cell_lt k0
            · exact cell_lt k1)
          have hl0 := cell_lt k0; have hl1 := cell_lt k1
          have HS := Lib.hid (rowUp_succ hay)
          have HR := Lib.hid hR; clear hR hj2
          gi_wp2
          refine HR.out.mono ?_
          rintro e W3 (⟨rfl, hJ3, hk3⟩ | ⟨rfl, hJx3⟩)
          · have hj4 : J (flatP n a ++ rowUp a (y + 1)) W3 := by rw [HS.out, ← List.append_assoc]; exact hJ3
            have q0 := cell_keep k0 hk3 (.inl rfl)
            have q1 := cell_keep k1 hk3 (.inr rfl)
            have HJ4 := Lib.hid hj4
            clear hJ3 hk3 hj4 k0 k1
            gi_wp2
            exact ⟨⟨y + 1, by omega, by omega, by go_num, HJ4.out, q0, q1⟩, by simp [intOf]; omega⟩
          · have HX : Hid (∃ pre x, pre ++ [x] <+: pairsL n ∧ Jx (pre ++ [x]) W3) := ⟨_, _, pairs_pre hay hly, hJx3⟩
            clear hJx3 k0 k1
            gi_wp2
            refine bodyPost_ret (results_none rfl _ _ _) rfl ?_
            exact ⟨⟨_, rfl⟩, .inr HX.out⟩
        · have HJ4 : Hid (J (flatP n (a + 1)) wr) := by
            show J _ _
            have e : y = n := by omega
            rw [e] at hj2; rw [flat_succ]; exact hj2
          clear hj2
          gi_wp2
          exact ⟨⟨a + 1, by omega, by go_num, HJ4.out, k0, k1⟩, by simp [intOf]; omega⟩
    · have HJ4 : Hid (J (pairsL n) wr) := by
        show J _ _
        have e : a = n := by omega
        rw [pairs_flat]; rw [e] at hj; exact hj
      clear hj
      gi_wp2
      go_end0
      exact ⟨⟨_, rfl⟩, .inl HJ4.out⟩
end Go.Proofs.YtfhnigpjmljhbaaDoor.Or

/- A region that draws its order and only reads, in a round of a range over a function. -/
set_option linter.unusedVariables false
namespace Go.Proofs.YtfhnigpjmljhbaaDoor.Or
open Go.RowKit Go.Shelf

def isDefer (o : Oper) : Bool := match o.op with | .defer _ => true | _ => false
theorem upon_round {F : Fence} {l n : Nat} {P : Program} {o : Oper} {a : Act} {K : Act → World → Prop} {Q : Exit → Act → World → Prop} : ∀ (r : Result Next), o.uponIn F n P a K Q r → o.uponIn (F.inRound l) n P a K Q r
  | .ok (.value _) _, h => h
  | .ok .skip _, h => h
  | .ok (.defer _) _, h => h
  | .ok (.enter _ _) _, h => h
  | .ok (.row _ _) _, h => h
  | .ok (.round _ _ _ _ _) _, h => h
  | .halt (.panic _) _, h => h
  | .halt (.exit _) _, h => h.elim
  | _, h => by first | exact h | exact h.elim
theorem wpOp_round {F : Fence} {l n : Nat} {P : Program} {o : Oper} {a : Act} {w : World} {K : Act → World → Prop} {Q : Exit → Act → World → Prop} (hro : F.round = none) (hd : isDefer o = false) (h : o.wpIn F n P a w K Q) : o.wpIn (F.inRound l) n P a w K Q := by
  have hd' : ∀ c, o.op ≠ .defer c := fun c e => by unfold isDefer at hd; rw [e] at hd; cases hd
  refine ⟨h.1, ?_⟩
  have h2 := h.2
  rw [hro, Oper.semAt_none] at h2
  show o.uponIn (F.inRound l) n P a K Q ((o.semAt (some l) a.eval).run P w)
  rw [Oper.semAt_some _ _ _ hd']
  exact upon_round _ h2
theorem wpAny_round {F : Fence} {l n : Nat} {P : Program} {ops : Array Oper} {md : Region.Mode} {Q : Exit → Act → World → Prop} (hro : F.round = none) (hd : ∀ (i : Nat) (o : Oper), ops[i]? = some o → isDefer o = false) :
    ∀ (fuel : Nat) (listed : Array Bool) (a : Act) (w : World), wpAnyIn F n P md ops Q fuel listed a w → wpAnyIn (F.inRound l) n P md ops Q fuel listed a w
  | 0, _, _, _, h => h
  | fuel + 1, listed, a, w, h => ⟨h.1, fun i hi => by
      have h2 := h.2 i hi
      unfold wpOpIn at h2 ⊢
      cases ho : ops[i]? with
      | none => rw [ho] at h2; exact wpAny_round hro hd fuel _ _ _ h2
      | some o =>
        rw [ho] at h2
        simp only at h2 ⊢
        split at h2
        · rename_i hw
          rw [if_pos hw]
          exact Oper.wpIn_mono (fun a w hh => wpAny_round hro hd fuel _ a w hh) (wpOp_round hro (hd i o ho) h2)
        · rename_i hw
          rw [if_neg hw]
          exact ⟨h2.1, wpAny_round hro hd fuel _ _ _ h2.2⟩⟩
theorem region_quiet_round {F : Fence} {n r : Nat} {P : Program} {id : Nat} {Q : Exit → Act → World → Prop} {a : Act} {w : World} {l : List Oper} (hro : F.round = none) (hm : P.follows .mixedOrders = true) (hB : Region.lexB .any l.toArray = true) (hd : l.all (fun o => !isDefer o) = true)
    (h : wpQuietIn F n P l.toArray (fun w' => ∃ n, w' = w.drewN n) (fun a' => ∀ w', (∃ n, w' = w.drewN n) → Q .normal a' w') l a) : (Code.region id l.toArray true).wpIn (F.inRound r) n P Q a w := by
  simp only [Region.lexB, Bool.and_eq_true] at hB
  refine wpIn_region_any hm (wpAny_round hro (fun i o ho => ?_) _ _ _ _ (wpAnyIn_of_quiet (C := fun w' => ∃ n, w' = w.drewN n) (Q := fun a' => ∀ w', (∃ n, w' = w.drewN n) → Q .normal a' w') hro (fun _ w' hw' h => h w' hw') _ _ _ _ ⟨1, rfl⟩ ?_))
  · have ho' : l[i]? = some o := by simpa using ho
    have := List.all_eq_true.1 hd o (List.mem_of_getElem? ho')
    simpa using this
  · have := wpAnyQIn_lex (F := F) (n := n) (C := fun w' => ∃ n, w' = w.drewN n) (md := .any) hB.1 l.toArray.toList 0 (Array.replicate l.toArray.size false) a (by simp) (by simpa using hB.2) (by simpa using h)
    simpa using this
end Go.Proofs.YtfhnigpjmljhbaaDoor.Or
