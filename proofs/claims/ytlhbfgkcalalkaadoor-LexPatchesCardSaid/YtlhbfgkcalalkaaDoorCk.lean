/- inRange and Patch at any input; the reference's ArePlaces, its Patch where there is an error, and in its limits. -/
import Derived.Test.YtlhbfgkcalalkaaDoorCb
import Derived.BigQuiet
import Derived.Deep.RegionHeld3
set_option linter.unusedVariables false
set_option linter.unusedSimpArgs false
namespace Go.Proofs.YtlhbfgkcalalkaaDoor
open Go.RowKit Go.Shelf

/-- Whether places are in their limits. -/
def plF (ls : List Lx) : Bool := ls.all fun y => decide (0 ≤ y.2.2) && decide (y.2.2 ≤ 2500)
/-- Whether the numbers of an edit and of a change are in their limits. -/
def rngF (n : Nat) (F T H K : Int) : Bool := decide (0 ≤ F ∧ F ≤ T ∧ T ≤ 2500 ∧ 0 ≤ H ∧ 0 ≤ K ∧ K ≤ (n : Int) - H)
theorem plF_mem {ls : List Lx} (h : plF ls = true) : ∀ y ∈ ls, 0 ≤ y.2.2 ∧ y.2.2 ≤ 2500 := fun y hy => by
  unfold plF at h
  rw [List.all_eq_true] at h
  simpa using h y hy

set_option maxRecDepth 100000 in
set_option maxHeartbeats 1000000 in
theorem placed1_any (x : Lx) (w : World) :
    Calls Tryd.prog 38 #[lxV x] w fun e w' => e = .returned (.bool (decide (0 ≤ x.2.2) && decide (x.2.2 ≤ 2500))) ∧ Below w.heap.size w w' := by
  obtain ⟨x1, x2, x3⟩ := x
  unfold lxV
  by_cases h1 : 0 ≤ x3
  · have b1 : decide (0 ≤ x3) = true := decide_eq_true h1
    by_cases h2 : x3 ≤ 2500
    · have b2 : decide (x3 ≤ 2500) = true := decide_eq_true h2
      have HB := Lib.hid b1; have HB2 := Lib.hid b2
      go_enter Tryd.func38, Tryd.ntmps38
      go_wp2
      all_goals go_ret
      all_goals exact ⟨ret_bool (by simp [HB.out, HB2.out, h1, h2]), (Below.refl _ _).alloc (Nat.le_refl _) _⟩
    · have b2 : decide (x3 ≤ 2500) = false := decide_eq_false h2
      have HB := Lib.hid b1; have HB2 := Lib.hid b2
      go_enter Tryd.func38, Tryd.ntmps38
      go_wp2
      all_goals go_ret
      all_goals exact ⟨ret_bool (by simp [HB.out, HB2.out, h1, h2]), (Below.refl _ _).alloc (Nat.le_refl _) _⟩
  · have b1 : decide (0 ≤ x3) = false := decide_eq_false h1
    have HB := Lib.hid b1
    go_enter Tryd.func38, Tryd.ntmps38
    go_wp2
    all_goals go_ret
    all_goals exact ⟨ret_bool (by simp [HB.out, h1]), (Below.refl _ _).alloc (Nat.le_refl _) _⟩

set_option maxRecDepth 100000 in
set_option maxHeartbeats 4000000 in
theorem inRange_no (n cap : Nat) (p : Option Addr) (u : Value) (F T H K : Int) (put : List UInt8) (w : World) (hn : n ≤ 900) (hH : H ≤ 9223372036854775807) (hr : rngF n F T H K = false) :
    Calls Tryd.prog 14 #[.slice p n cap, .agg #[.int .i64 F, .int .i64 T, .string (mkS put)], .agg #[.int .i64 H, .int .i64 K, u]] w fun e w' => e = .returned (.bool false) ∧ Below w.heap.size w w' := by
  have HB0 : Hid (Below w.heap.size w ((w.alloc (.cells #[.int .i64 F, .int .i64 T, .string (mkS put)] 24)).alloc (.cells #[.int .i64 H, .int .i64 K, u] 26))) := ((Below.refl _ _).alloc (Nat.le_refl _) _).alloc (by simp) _
  unfold rngF at hr
  rw [decide_eq_false_iff_not] at hr
  by_cases c1 : F < 0
  · have b1 : decide (F < 0) = true := decide_eq_true c1
    clear hr
    go_enter Tryd.func14, Tryd.ntmps14
    go_wp2
    go_ret
    exact ⟨ret_bool rfl, HB0.out⟩
  have b1 : decide (F < 0) = false := decide_eq_false c1
  by_cases c2 : T < F
  · have b2 : decide (T < F) = true := decide_eq_true c2
    clear hr
    go_enter Tryd.func14, Tryd.ntmps14
    go_wp2
    go_ret
    exact ⟨ret_bool rfl, HB0.out⟩
  have b2 : decide (T < F) = false := decide_eq_false c2
  by_cases c3 : 2500 < T
  · have b3 : decide (2500 < T) = true := decide_eq_true c3
    clear hr
    go_enter Tryd.func14, Tryd.ntmps14
    go_wp2
    go_ret
    exact ⟨ret_bool rfl, HB0.out⟩
  have b3 : decide (2500 < T) = false := decide_eq_false c3
  by_cases c4 : H < 0
  · have b4 : decide (H < 0) = true := decide_eq_true c4
    clear hr
    go_enter Tryd.func14, Tryd.ntmps14
    go_wp2
    go_ret
    exact ⟨ret_bool rfl, HB0.out⟩
  have b4 : decide (H < 0) = false := decide_eq_false c4
  by_cases c5 : K < 0
  · have b5 : decide (K < 0) = true := decide_eq_true c5
    clear hr
    go_enter Tryd.func14, Tryd.ntmps14
    go_wp2
    go_ret
    exact ⟨ret_bool rfl, HB0.out⟩
  have b5 : decide (K < 0) = false := decide_eq_false c5
  have s1 : IntKind.i64.wrap ((n : Int) - H) = (n : Int) - H := IntWalk.i64_in _ (by omega)
  have b6 : decide ((n : Int) - H < K) = true := decide_eq_true (by omega)
  clear hr
  go_enter Tryd.func14, Tryd.ntmps14
  go_wp2
  go_ret
  exact ⟨ret_bool rfl, HB0.out⟩

set_option maxRecDepth 100000 in
set_option maxHeartbeats 4000000 in
theorem inRange_yes (L N : List Lx) (v u : Value) (F T H K : Int) (put : List UInt8) (w : World) (hv : ReadsLx w v L) (hu : ReadsLx w u N) (hl : L.length ≤ 900) (hr : rngF L.length F T H K = true) :
    Calls Tryd.prog 14 #[v, .agg #[.int .i64 F, .int .i64 T, .string (mkS put)], .agg #[.int .i64 H, .int .i64 K, u]] w fun e w' => e = .returned (.bool (plF L && plF N)) ∧ Below w.heap.size w w' := by
  have CE1 : Hid (∀ W, Below w.heap.size w W → Calls Tryd.prog 23 #[v, .func (.func 38) #[] #[]] W fun e w' => e = .returned (.bool (plF L)) ∧ Below W.heap.size W w') := fun W hW =>
    every_calls v L 38 #[] (fun y => decide (0 ≤ y.2.2) && decide (y.2.2 ≤ 2500)) W (hv.below hW) (fun args w => rfl) (fun x W' hx hb => by
      have := placed1_any x W'
      simpa using this)
  have CE2 : Hid (∀ W, Below w.heap.size w W → Calls Tryd.prog 23 #[u, .func (.func 38) #[] #[]] W fun e w' => e = .returned (.bool (plF N)) ∧ Below W.heap.size W w') := fun W hW =>
    every_calls u N 38 #[] (fun y => decide (0 ≤ y.2.2) && decide (y.2.2 ≤ 2500)) W (hu.below hW) (fun args w => rfl) (fun x W' hx hb => by
      have := placed1_any x W'
      simpa using this)
  obtain ⟨p, cap, rfl, _, _⟩ := hv
  obtain ⟨n, hn⟩ : ∃ n, n = L.length := ⟨_, rfl⟩
  rw [← hn] at CE1 hl hr ⊢
  unfold rngF at hr
  rw [decide_eq_true_eq] at hr
  obtain ⟨r1, r2, r3, r4, r5, r6⟩ := hr
  have b1 : decide (F < 0) = false := decide_eq_false (by omega)
  have b2 : decide (T < F) = false := decide_eq_false (by omega)
  have b3 : decide (2500 < T) = false := decide_eq_false (by omega)
  have b4 : decide (H < 0) = false := decide_eq_false (by omega)
  have b5 : decide (K < 0) = false := decide_eq_false (by omega)
  have s1 : IntKind.i64.wrap ((n : Int) - H) = (n : Int) - H := IntWalk.i64_in _ (by omega)
  have b6 : decide ((n : Int) - H < K) = false := decide_eq_false (by omega)
  have HB0 : Hid (Below w.heap.size w ((w.alloc (.cells #[.int .i64 F, .int .i64 T, .string (mkS put)] 24)).alloc (.cells #[.int .i64 H, .int .i64 K, u] 26))) := ((Below.refl _ _).alloc (Nat.le_refl _) _).alloc (by simp) _
  obtain ⟨pu, cu, rfl, _, _⟩ := hu
  obtain ⟨q1, hq1⟩ : ∃ q, q = plF L := ⟨_, rfl⟩
  obtain ⟨q2, hq2⟩ : ∃ q, q = plF N := ⟨_, rfl⟩
  rw [← hq1] at CE1
  rw [← hq2] at CE2
  rw [← hq1, ← hq2]
  clear hn hq1 hq2 r1 r2 r3 r4 r5 r6
  cases q1 with
  | false =>
    go_enter Tryd.func14, Tryd.ntmps14
    go_wp2_with fail
    refine (CE1.out _ HB0.out).mono ?_
    rintro e w1 ⟨rfl, hb⟩
    have HB1 := Lib.hid (HB0.out.trans (hb.mono (by simp; omega)))
    clear hb
    go_wp2
    go_ret
    exact ⟨ret_bool rfl, HB1.out⟩
  | true =>
    go_enter Tryd.func14, Tryd.ntmps14
    go_wp2_with fail
    refine (CE1.out _ HB0.out).mono ?_
    rintro e w1 ⟨rfl, hb⟩
    have k2 : w1.cell? ⟨w.heap.size + 1, 2, none⟩ = some (.slice pu N.length cu) := (hb.cell (by simp)).trans (by simp [go_sem])
    have HB1 := Lib.hid (HB0.out.trans (hb.mono (by simp; omega)))
    clear hb
    go_wp2_with fail
    refine (CE2.out _ HB1.out).mono ?_
    rintro e w2 ⟨rfl, hb2⟩
    have HB2 := Lib.hid (HB1.out.trans (hb2.mono HB1.out.size))
    clear hb2 k2
    go_wp2
    all_goals go_ret
    all_goals exact ⟨ret_bool (by cases q2 <;> rfl), HB2.out⟩

set_option maxRecDepth 100000 in
set_option maxHeartbeats 4000000 in
theorem patch_limit (n m cap cu : Nat) (p pu : Option Addr) (F T H K : Int) (put : List UInt8) (w : World) (h : 900 < n ∨ 900 < m ∨ 2500 < put.length) :
    Calls Tryd.prog 7 #[.slice p n cap, .agg #[.int .i64 F, .int .i64 T, .string (mkS put)], .agg #[.int .i64 H, .int .i64 K, .slice pu m cu]] w fun e w' => e = .returned (.tuple #[.slice none 0 0, .int .i64 5]) ∧ Below w.heap.size w w' := by
  have HB0 : Hid (Below w.heap.size w ((w.alloc (.cells #[.int .i64 F, .int .i64 T, .string (mkS put)] 24)).alloc (.cells #[.int .i64 H, .int .i64 K, .slice pu m cu] 26))) := ((Below.refl _ _).alloc (Nat.le_refl _) _).alloc (by simp) _
  obtain ⟨mx, hmx⟩ : ∃ mx : Int, mx = max (n : Int) (m : Int) := ⟨_, rfl⟩
  have HMX : Hid (max (n : Int) (m : Int) = mx) := hmx.symm
  have hpz : (mkS put).size = put.length := mkS_size put
  by_cases c : 900 < mx
  · have b1 : decide (900 < mx) = true := decide_eq_true c
    clear hmx h hpz
    go_enter Tryd.func7, Tryd.ntmps7
    have hmx := HMX.out
    go_wp2
    go_ret2
    exact ⟨rfl, HB0.out⟩
  · have b1 : decide (900 < mx) = false := decide_eq_false c
    have b2 : decide (2500 < ((mkS put).size : Int)) = true := decide_eq_true (by omega)
    have b2' : 2500 < (mkS put).size := by omega
    clear hmx h hpz
    go_enter Tryd.func7, Tryd.ntmps7
    have hmx := HMX.out
    go_wp2
    go_ret2
    exact ⟨rfl, HB0.out⟩

set_option maxRecDepth 100000 in
set_option maxHeartbeats 4000000 in
theorem patch_err (n m cap cu : Nat) (p pu : Option Addr) (F T H K : Int) (put : List UInt8) (w : World) (E : Bool) (hn : n ≤ 900) (hm : m ≤ 900) (hput : put.length ≤ 2500)
    (CI : Hid (∀ W, Below w.heap.size w W → Calls Tryd.prog 14 #[.slice p n cap, .agg #[.int .i64 F, .int .i64 T, .string (mkS put)], .agg #[.int .i64 H, .int .i64 K, .slice pu m cu]] W fun e w' => e = .returned (.bool E) ∧ Below W.heap.size W w'))
    (hE : E = true → 0 ≤ H ∧ H ≤ 900 ∧ 0 ≤ K ∧ K ≤ 900 ∧ 900 < H + m + K) :
    Calls Tryd.prog 7 #[.slice p n cap, .agg #[.int .i64 F, .int .i64 T, .string (mkS put)], .agg #[.int .i64 H, .int .i64 K, .slice pu m cu]] w fun e w' => e = .returned (.tuple #[.slice none 0 0, .int .i64 (if E then 5 else 3)]) ∧ Below w.heap.size w w' := by
  have HB0 : Hid (Below w.heap.size w ((w.alloc (.cells #[.int .i64 F, .int .i64 T, .string (mkS put)] 24)).alloc (.cells #[.int .i64 H, .int .i64 K, .slice pu m cu] 26))) := ((Below.refl _ _).alloc (Nat.le_refl _) _).alloc (by simp) _
  obtain ⟨mx, hmx⟩ : ∃ mx : Int, mx = max (n : Int) (m : Int) := ⟨_, rfl⟩
  have HMX : Hid (max (n : Int) (m : Int) = mx) := hmx.symm
  have hpz : (mkS put).size = put.length := mkS_size put
  have b1 : decide (900 < mx) = false := decide_eq_false (by omega)
  have b1' : ¬ 900 < mx := by omega
  have b2 : decide (2500 < ((mkS put).size : Int)) = false := decide_eq_false (by omega)
  have b2' : ¬ 2500 < (mkS put).size := by omega
  cases E with
  | false =>
    clear hmx hpz hE hn hm hput
    go_enter Tryd.func7, Tryd.ntmps7
    have hmx := HMX.out
    go_wp2_with fail
    refine (CI.out _ HB0.out).mono ?_
    rintro e w1 ⟨rfl, hb⟩
    have HB1 := Lib.hid (HB0.out.trans (hb.mono (by simp; omega)))
    clear hb
    go_wp2
    go_ret2
    exact ⟨rfl, HB1.out⟩
  | true =>
    obtain ⟨e1, e2, e3, e4, e5⟩ := hE rfl
    have s1 : IntKind.i64.wrap (H + (m : Int)) = H + (m : Int) := IntWalk.i64_in _ (by omega)
    have s2 : IntKind.i64.wrap (H + (m : Int) + K) = H + (m : Int) + K := IntWalk.i64_in _ (by omega)
    have b3 : decide (900 < H + (m : Int) + K) = true := decide_eq_true e5
    clear hmx hpz hE hn hm hput e1 e2 e3 e4
    go_enter Tryd.func7, Tryd.ntmps7
    have hmx := HMX.out
    go_wp2_with fail
    refine (CI.out _ HB0.out).mono ?_
    rintro e w1 ⟨rfl, hb⟩
    have k0 : w1.cell? ⟨w.heap.size + 1, 0, none⟩ = some (.int .i64 H) := (hb.cell (by simp)).trans (by simp [go_sem])
    have k1 : w1.cell? ⟨w.heap.size + 1, 1, none⟩ = some (.int .i64 K) := (hb.cell (by simp)).trans (by simp [go_sem])
    have k2 : w1.cell? ⟨w.heap.size + 1, 2, none⟩ = some (.slice pu m cu) := (hb.cell (by simp)).trans (by simp [go_sem])
    have HB1 := Lib.hid (HB0.out.trans (hb.mono (by simp; omega)))
    clear hb
    go_wp2
    go_ret2
    exact ⟨rfl, HB1.out⟩

/-- What Patch comes to: the tokens, the error. -/
def patF (L N : List Lx) (F T H K : Int) (put : List UInt8) : List Lx × Nat :=
  if 900 < L.length ∨ 900 < N.length ∨ 2500 < put.length then ([], 5)
  else if (rngF L.length F T H K && (plF L && plF N)) = false then ([], 3)
  else if 900 < H + N.length + K then ([], 5) else (patchL L N H.toNat K.toNat ((put.length : Int) - (T - F)), 0)

/-- Patch, at a row of one's own. -/
theorem patch_all (L N : List Lx) (v u : Value) (F T H K : Int) (put : List UInt8) (w : World) (base : Nat) (hH : H ≤ 9223372036854775807) (hl1 : L.length ≤ 1000) (hv : w.ownsRow base 36 3 v L.length (rowCells L)) (hu : ReadsLx w u N) :
    Calls Tryd.prog 7 #[v, .agg #[.int .i64 F, .int .i64 T, .string (mkS put)], .agg #[.int .i64 H, .int .i64 K, u]] w fun e w' =>
      ∃ v', e = .returned (.tuple #[v', .int .i64 (patF L N F T H K put).2]) ∧ ReadsLx w' v' (patF L N F T H K put).1 ∧ Below w.heap.size w w' := by
  have hnil : ∀ W : World, ReadsLx W (.slice none 0 0) [] := fun W => ⟨none, 0, rfl, by simp, .inl rfl⟩
  have hread := reads_own hv (by omega)
  obtain ⟨p, cap, rfl⟩ := ownsRow_slice hv
  have hu' := hu
  obtain ⟨pu, cu, rfl, _, _⟩ := hu'
  by_cases c1 : 900 < L.length ∨ 900 < N.length ∨ 2500 < put.length
  · have e : patF L N F T H K put = ([], 5) := by unfold patF; rw [if_pos c1]
    rw [e]
    exact (patch_limit L.length N.length cap cu p pu F T H K put w c1).mono fun e w' ⟨h1, h2⟩ => ⟨_, h1, hnil _, h2⟩
  · have h1 : L.length ≤ 900 := by omega
    have h2 : N.length ≤ 900 := by omega
    have h3 : put.length ≤ 2500 := by omega
    cases hr : rngF L.length F T H K with
    | false =>
      have e : patF L N F T H K put = ([], 3) := by unfold patF; rw [if_neg c1, hr, Bool.false_and, if_pos rfl]
      rw [e]
      exact (patch_err L.length N.length cap cu p pu F T H K put w false h1 h2 h3 (fun W hW => inRange_no L.length cap p _ F T H K put W h1 hH hr) (fun h => by cases h)).mono fun e w' ⟨h1, h2⟩ => ⟨_, h1, hnil _, h2⟩
    | true =>
      have CI := fun W (hW : Below w.heap.size w W) => inRange_yes L N _ _ F T H K put W (hread.below hW) (hu.below hW) h1 hr
      have hrr := hr
      unfold rngF at hrr
      rw [decide_eq_true_eq] at hrr
      cases hp : (plF L && plF N) with
      | false =>
        have e : patF L N F T H K put = ([], 3) := by unfold patF; rw [if_neg c1, hr, hp, Bool.true_and, if_pos rfl]
        rw [e]
        rw [hp] at CI
        exact (patch_err L.length N.length cap cu p pu F T H K put w false h1 h2 h3 CI (fun h => by cases h)).mono fun e w' ⟨h1, h2⟩ => ⟨_, h1, hnil _, h2⟩
      | true =>
        by_cases hs : 900 < H + N.length + K
        · have e : patF L N F T H K put = ([], 5) := by unfold patF; rw [if_neg c1, hr, hp, if_neg (by decide), if_pos hs]
          rw [e]
          rw [hp] at CI
          exact (patch_err L.length N.length cap cu p pu F T H K put w true h1 h2 h3 CI (fun _ => ⟨by omega, by omega, by omega, by omega, hs⟩)).mono fun e w' ⟨h1, h2⟩ => ⟨_, h1, hnil _, h2⟩
        · have e : patF L N F T H K put = (patchL L N H.toNat K.toNat ((put.length : Int) - (T - F)), 0) := by unfold patF; rw [if_neg c1, hr, hp, if_neg (by decide), if_neg hs]
          rw [e]
          rw [Bool.and_eq_true] at hp
          obtain ⟨F', rfl⟩ : ∃ x : Nat, F = x := ⟨F.toNat, by omega⟩
          obtain ⟨T', rfl⟩ : ∃ x : Nat, T = x := ⟨T.toNat, by omega⟩
          obtain ⟨H', rfl⟩ : ∃ x : Nat, H = x := ⟨H.toNat, by omega⟩
          obtain ⟨K', rfl⟩ : ∃ x : Nat, K = x := ⟨K.toNat, by omega⟩
          exact patch_any L N _ _ H' K' F' T' put _ w base hv hu (by omega) (by omega) h1 h2 (by omega) (by omega) h3 rfl (plF_mem hp.1) (plF_mem hp.2)


set_option maxRecDepth 100000 in
set_option maxHeartbeats 2000000 in
theorem arePlaces_any (v : Value) (ls : List Lx) (w : World) (hv : ReadsLx w v ls) :
    Calls Tryd.prog 17 #[v] w fun e w' => e = .returned (.bool (plF ls)) ∧ w = w' := by
  have HA := Lib.hid (reads_at hv)
  obtain ⟨p, cap, rfl, hl, j2⟩ := hv
  obtain ⟨n, hn⟩ : ∃ n, n = ls.length := ⟨_, rfl⟩
  have HN := Lib.hid hn
  rw [← hn] at hl ⊢
  clear hn j2
  go_enter Tryd.func17, Tryd.ntmps17
  go_wp2
  go_loop [3] (fun i => ∃ k : Nat, k ≤ n ∧ i = .int .i64 k ∧ Hid (plF (ls.drop k) = plF ls)) (fun i => n - (intOf i).toNat)
  case atStart => exact ⟨0, Nat.zero_le _, rfl, rfl⟩
  case round =>
    obtain ⟨k, hk, rfl, hpre⟩ := hrel
    by_cases hlt : k < n
    · have hkl : k < ls.length := by have := HN.out; omega
      obtain ⟨b, off, cap', hsl, c1, c2, c3⟩ := HA.out k hkl
      simp only [Value.slice.injEq] at hsl
      obtain ⟨rfl, hu1, hu2⟩ := hsl
      clear hu1 hu2
      have hd : ls.drop k = ls.getD k (0, [], 0) :: ls.drop (k + 1) := by
        rw [List.drop_eq_getElem_cons hkl]; simp [List.getD_eq_getElem?_getD, hkl]
      obtain ⟨x, hx⟩ : ∃ x, x = ls.getD k (0, [], 0) := ⟨_, rfl⟩
      rw [← hx] at c1 c2 c3 hd
      obtain ⟨x1, x2, x3⟩ := x
      have hstep := hpre.out
      unfold plF at hstep
      rw [hd, List.all_cons] at hstep
      simp only at hstep
      have hkI : (k : Int) < (n : Int) := by omega
      by_cases h1 : x3 < 0
      · have b1 : decide (x3 < 0) = true := decide_eq_true h1
        have H : Hid (plF ls = false) := by show _ = _; unfold plF; rw [← hstep, decide_eq_false (by omega : ¬ (0 : Int) ≤ x3)]; rfl
        clear hstep hd hx hpre hkl h1
        go_wp2
        go_ret
        exact ⟨ret_bool (by rw [H.out]), rfl⟩
      · have b1 : decide (x3 < 0) = false := decide_eq_false h1
        by_cases h2 : 2500 < x3
        · have b2 : decide (2500 < x3) = true := decide_eq_true h2
          have H : Hid (plF ls = false) := by show _ = _; unfold plF; rw [← hstep, decide_eq_false (by omega : ¬ x3 ≤ 2500)]; simp
          clear hstep hd hx hpre hkl h1 h2
          go_wp2
          go_ret
          exact ⟨ret_bool (by rw [H.out]), rfl⟩
        · have b2 : decide (2500 < x3) = false := decide_eq_false h2
          have H : Hid (plF (ls.drop (k + 1)) = plF ls) := by show _ = _; unfold plF; rw [← hstep, decide_eq_true (by omega : (0 : Int) ≤ x3), decide_eq_true (by omega : x3 ≤ 2500)]; rfl
          clear hstep hd hx hpre hkl h1 h2
          go_wp2
          go_round
          case rel => exact ⟨k + 1, by omega, by go_num, H⟩
          case measure => simp [intOf]; omega
    · have H : Hid (plF ls = true) := by show _ = _; rw [← hpre.out, List.drop_of_length_le (by have := HN.out; omega)]; rfl
      clear hpre
      go_wp2
      go_ret
      exact ⟨ret_bool (by rw [H.out]), rfl⟩

set_option maxRecDepth 100000 in
set_option maxHeartbeats 4000000 in
theorem refPatch_limit (n m cap cu : Nat) (p pu : Option Addr) (F T H K : Int) (put : List UInt8) (w : World) (h : 900 < n ∨ 900 < m ∨ 2500 < put.length) :
    Calls Tryd.prog 8 #[.slice p n cap, .agg #[.int .i64 F, .int .i64 T, .string (mkS put)], .agg #[.int .i64 H, .int .i64 K, .slice pu m cu]] w fun e w' => e = .returned (.tuple #[.slice none 0 0, .int .i64 5]) ∧ Below w.heap.size w w' := by
  have HB0 : Hid (Below w.heap.size w ((w.alloc (.cells #[.int .i64 F, .int .i64 T, .string (mkS put)] 24)).alloc (.cells #[.int .i64 H, .int .i64 K, .slice pu m cu] 26))) := ((Below.refl _ _).alloc (Nat.le_refl _) _).alloc (by simp) _
  have hpz : (mkS put).size = put.length := mkS_size put
  by_cases c1 : 900 < n
  · have b1 : decide ((900 : Int) < (n : Int)) = true := decide_eq_true (by omega)
    clear h hpz
    go_enter Tryd.func8, Tryd.ntmps8
    go_wp2
    go_ret2
    exact ⟨rfl, HB0.out⟩
  · have b1 : decide ((900 : Int) < (n : Int)) = false := decide_eq_false (by omega)
    have b1' : decide (900 < n) = false := decide_eq_false c1
    by_cases c2 : 900 < m
    · have b2 : decide ((900 : Int) < (m : Int)) = true := decide_eq_true (by omega)
      clear c1
      clear h hpz
      go_enter Tryd.func8, Tryd.ntmps8
      go_wp2
      go_ret2
      exact ⟨rfl, HB0.out⟩
    · have b2 : decide ((900 : Int) < (m : Int)) = false := decide_eq_false (by omega)
      have b2' : decide (900 < m) = false := decide_eq_false c2
      have b3 : decide ((2500 : Int) < ((mkS put).size : Int)) = true := decide_eq_true (by omega)
      have b3' : 2500 < (mkS put).size := by omega
      clear c1 c2
      clear h hpz
      go_enter Tryd.func8, Tryd.ntmps8
      go_wp2
      go_ret2
      exact ⟨rfl, HB0.out⟩

set_option maxRecDepth 100000 in
set_option maxHeartbeats 4000000 in
theorem refPatch_range (n m cap cu : Nat) (p pu : Option Addr) (F T H K : Int) (put : List UInt8) (w : World) (hn : n ≤ 900) (hm : m ≤ 900) (hput : put.length ≤ 2500) (hH : H ≤ 9223372036854775807) (hr : rngF n F T H K = false) :
    Calls Tryd.prog 8 #[.slice p n cap, .agg #[.int .i64 F, .int .i64 T, .string (mkS put)], .agg #[.int .i64 H, .int .i64 K, .slice pu m cu]] w fun e w' => e = .returned (.tuple #[.slice none 0 0, .int .i64 3]) ∧ Below w.heap.size w w' := by
  have HB0 : Hid (Below w.heap.size w ((w.alloc (.cells #[.int .i64 F, .int .i64 T, .string (mkS put)] 24)).alloc (.cells #[.int .i64 H, .int .i64 K, .slice pu m cu] 26))) := ((Below.refl _ _).alloc (Nat.le_refl _) _).alloc (by simp) _
  have hpz : (mkS put).size = put.length := mkS_size put
  have a1 : decide ((900 : Int) < (n : Int)) = false := decide_eq_false (by omega)
  have a1' : decide (900 < n) = false := decide_eq_false (by omega)
  have a2 : decide ((900 : Int) < (m : Int)) = false := decide_eq_false (by omega)
  have a2' : decide (900 < m) = false := decide_eq_false (by omega)
  have a3 : decide ((2500 : Int) < ((mkS put).size : Int)) = false := decide_eq_false (by omega)
  have a3' : decide (2500 < (mkS put).size) = false := decide_eq_false (by omega)
  unfold rngF at hr
  rw [decide_eq_false_iff_not] at hr
  by_cases c0 : F < 0
  · have b0 : decide (F < 0) = true := decide_eq_true c0
    clear hr hn hm hput hpz
    go_enter Tryd.func8, Tryd.ntmps8
    go_wp2
    go_ret2
    exact ⟨rfl, HB0.out⟩
  have b0 : decide (F < 0) = false := decide_eq_false c0
  by_cases c1 : T < F
  · have b1 : decide (T < F) = true := decide_eq_true c1
    clear hr hn hm hput hpz
    go_enter Tryd.func8, Tryd.ntmps8
    go_wp2
    go_ret2
    exact ⟨rfl, HB0.out⟩
  have b1 : decide (T < F) = false := decide_eq_false c1
  by_cases c2 : 2500 < T
  · have b2 : decide (2500 < T) = true := decide_eq_true c2
    clear hr hn hm hput hpz
    go_enter Tryd.func8, Tryd.ntmps8
    go_wp2
    go_ret2
    exact ⟨rfl, HB0.out⟩
  have b2 : decide (2500 < T) = false := decide_eq_false c2
  by_cases c3 : H < 0
  · have b3 : decide (H < 0) = true := decide_eq_true c3
    clear hr hn hm hput hpz
    go_enter Tryd.func8, Tryd.ntmps8
    go_wp2
    go_ret2
    exact ⟨rfl, HB0.out⟩
  have b3 : decide (H < 0) = false := decide_eq_false c3
  by_cases c4 : K < 0
  · have b4 : decide (K < 0) = true := decide_eq_true c4
    clear hr hn hm hput hpz
    go_enter Tryd.func8, Tryd.ntmps8
    go_wp2
    go_ret2
    exact ⟨rfl, HB0.out⟩
  have b4 : decide (K < 0) = false := decide_eq_false c4
  by_cases c5 : (n : Int) < H
  · have b5 : decide ((n : Int) < H) = true := decide_eq_true c5
    clear hr hn hm hput hpz
    go_enter Tryd.func8, Tryd.ntmps8
    go_wp2
    go_ret2
    exact ⟨rfl, HB0.out⟩
  have b5 : decide ((n : Int) < H) = false := decide_eq_false c5
  have s1 : IntKind.i64.wrap ((n : Int) - H) = (n : Int) - H := IntWalk.i64_in _ (by omega)
  have b6 : decide ((n : Int) - H < K) = true := decide_eq_true (by omega)
  clear hr hn hm hput hpz
  go_enter Tryd.func8, Tryd.ntmps8
  go_wp2
  go_ret2
  exact ⟨rfl, HB0.out⟩

set_option maxRecDepth 100000 in
set_option maxHeartbeats 4000000 in
theorem refPatch_places (L N : List Lx) (n m cap cu : Nat) (p pu : Option Addr) (F T H K : Int) (put : List UInt8) (w : World) (hn : n ≤ 900) (hm : m ≤ 900) (hput : put.length ≤ 2500) (hr : rngF n F T H K = true)
    (hv : ReadsLx w (.slice p n cap) L) (hu : ReadsLx w (.slice pu m cu) N) (hE : (plF L && plF N) = true → 900 < H + m + K) :
    Calls Tryd.prog 8 #[.slice p n cap, .agg #[.int .i64 F, .int .i64 T, .string (mkS put)], .agg #[.int .i64 H, .int .i64 K, .slice pu m cu]] w fun e w' => e = .returned (.tuple #[.slice none 0 0, .int .i64 (if plF L && plF N then 5 else 3)]) ∧ Below w.heap.size w w' := by
  have HB0 : Hid (Below w.heap.size w ((w.alloc (.cells #[.int .i64 F, .int .i64 T, .string (mkS put)] 24)).alloc (.cells #[.int .i64 H, .int .i64 K, .slice pu m cu] 26))) := ((Below.refl _ _).alloc (Nat.le_refl _) _).alloc (by simp) _
  have hpz : (mkS put).size = put.length := mkS_size put
  have a1 : decide ((900 : Int) < (n : Int)) = false := decide_eq_false (by omega)
  have a1' : decide (900 < n) = false := decide_eq_false (by omega)
  have a2 : decide ((900 : Int) < (m : Int)) = false := decide_eq_false (by omega)
  have a2' : decide (900 < m) = false := decide_eq_false (by omega)
  have a3 : decide ((2500 : Int) < ((mkS put).size : Int)) = false := decide_eq_false (by omega)
  have a3' : decide (2500 < (mkS put).size) = false := decide_eq_false (by omega)
  unfold rngF at hr
  rw [decide_eq_true_eq] at hr
  obtain ⟨r1, r2, r3, r4, r5, r6⟩ := hr
  have b0 : decide (F < 0) = false := decide_eq_false (by omega)
  have b1 : decide (T < F) = false := decide_eq_false (by omega)
  have b2 : decide (2500 < T) = false := decide_eq_false (by omega)
  have b3 : decide (H < 0) = false := decide_eq_false (by omega)
  have b4 : decide (K < 0) = false := decide_eq_false (by omega)
  have b5 : decide ((n : Int) < H) = false := decide_eq_false (by omega)
  have b6 : decide ((n : Int) - H < K) = false := decide_eq_false (by omega)
  have s1 : IntKind.i64.wrap ((n : Int) - H) = (n : Int) - H := IntWalk.i64_in _ (by omega)
  have C1 : Hid (∀ W, Below w.heap.size w W → Calls Tryd.prog 17 #[.slice p n cap] W fun e w' => e = .returned (.bool (plF L)) ∧ W = w') := fun W hW => arePlaces_any _ L W (hv.below hW)
  have C2 : Hid (∀ W, Below w.heap.size w W → Calls Tryd.prog 17 #[.slice pu m cu] W fun e w' => e = .returned (.bool (plF N)) ∧ W = w') := fun W hW => arePlaces_any _ N W (hu.below hW)
  have s2 : IntKind.i64.wrap (H + (m : Int)) = H + (m : Int) := IntWalk.i64_in _ (by omega)
  have s3 : IntKind.i64.wrap (H + (m : Int) + K) = H + (m : Int) + K := IntWalk.i64_in _ (by omega)
  obtain ⟨q1, hq1⟩ : ∃ q, q = plF L := ⟨_, rfl⟩
  obtain ⟨q2, hq2⟩ : ∃ q, q = plF N := ⟨_, rfl⟩
  rw [← hq1] at C1 hE
  rw [← hq2] at C2 hE
  rw [← hq1, ← hq2]
  clear hq1 hq2 r1 r2 r3 r4 r5 r6 hn hm hput hpz hv hu
  cases q1 with
  | false =>
    clear hE
    go_enter Tryd.func8, Tryd.ntmps8
    go_wp2_with fail
    refine (C1.out _ HB0.out).mono ?_
    rintro e w' ⟨rfl, rfl⟩
    go_wp2
    go_ret2
    exact ⟨rfl, HB0.out⟩
  | true =>
    cases q2 with
    | false =>
      clear hE
      go_enter Tryd.func8, Tryd.ntmps8
      go_wp2_with fail
      refine (C1.out _ HB0.out).mono ?_
      rintro e w' ⟨rfl, rfl⟩
      go_wp2_with fail
      refine (C2.out _ HB0.out).mono ?_
      rintro e w' ⟨rfl, rfl⟩
      go_wp2
      go_ret2
      exact ⟨rfl, HB0.out⟩
    | true =>
      have b9 : decide (900 < H + (m : Int) + K) = true := decide_eq_true (hE rfl)
      clear hE
      go_enter Tryd.func8, Tryd.ntmps8
      go_wp2_with fail
      refine (C1.out _ HB0.out).mono ?_
      rintro e w' ⟨rfl, rfl⟩
      go_wp2_with fail
      refine (C2.out _ HB0.out).mono ?_
      rintro e w' ⟨rfl, rfl⟩
      go_wp2
      go_ret2
      exact ⟨rfl, HB0.out⟩


theorem wp_append_reads2 {w : World} {o : Oper} {a : Act} {K : Act → World → Prop} {Q : Exit → Act → World → Prop} (s x : Operand)
    (ho : o.op = .call { callee := .builtin .append, args := #[s, x], argTypes := #[22, 22] })
    (base : Nat) (v u : Value) (n : Nat) (xs : List Value) (hs : a.eval s = v) (hown : w.ownsRow base 36 3 v n xs) (hx : a.eval x = u) (ls : List Lx) (hu : ReadsLx w u ls) (hbase : base ≤ w.heap.size) (hn : n + ls.length ≤ 2000)
    (h : ∀ v' w', w'.ownsRow base 36 3 v' (n + ls.length) (xs ++ rowCells ls) → Below base w w' → K (a.put o.dst v') w') : o.wp Tryd.prog a w K Q := by
  obtain ⟨i0, hi, hz0, hz1, hz2⟩ := info_parts infoL
  obtain ⟨p, cap, rfl, hl, h0⟩ := hu
  have hlt := hown.lt
  cases p with
  | none =>
    have h00 : ls.length = 0 := by
      rcases h0 with h0 | ⟨b, off, hp, _⟩
      · exact h0
      · cases hp
    have hls : ls = [] := List.length_eq_zero_iff.1 h00
    subst hls
    refine Lib.wp_append_run w s x _ _ ho v (.slice none 0 cap) hs hx v w (run_append_zero w base _ _ _ i0 3 _ Tryd.underlying22 hi v n xs hown cap) (h v w ?_ (Below.refl _ _))
    simpa [rowCells] using hown
  | some ad =>
    have hcells : ∀ j u, (rowCells ls)[j]? = some u → w.cell? (ad.add j) = some u := by
      rcases h0 with h0 | ⟨b, off, hp, hc⟩
      · have hls : ls = [] := List.length_eq_zero_iff.1 h0
        subst hls
        intro j u hj; simp [rowCells] at hj
      · simp only [Option.some.injEq] at hp
        subst hp
        intro j u hj
        have hadd : (⟨b, off, none⟩ : Addr).add j = ⟨b, off + j, none⟩ := by unfold Addr.add; split <;> simp_all
        rw [hadd]; exact reads_cells hc j u hj
    refine wp_append_own w s x _ ho base 36 i0 _ 3 32 Tryd.underlying22 hi hz0 hz1 hz2 rfl (by decide) v n xs hs hown ad ls.length cap (rowCells ls) hx (rowCells_length ls) hcells (rowCells_one ls) (by unfold maxLen; omega) (by omega) hbase ?_
    intro v' w' h1 h2 _
    exact h v' w' h1 (Below.grown (Below.refl _ _) h2 hbase (fun k hk => (hlt k hk).1))
theorem step_append_reads2 {ops : Array Oper} {w : World} {o : Oper} {a : Act} {K : Act → World → Prop} {Q : Exit → Act → World → Prop} {E : Prop} (hg : o.guard = none) (s x : Operand)
    (ho : o.op = .call { callee := .builtin .append, args := #[s, x], argTypes := #[22, 22] })
    (base : Nat) (v u : Value) (n : Nat) (xs : List Value) (hs : a.eval s = v) (hown : w.ownsRow base 36 3 v n xs) (hx : a.eval x = u) (ls : List Lx) (hu : ReadsLx w u ls) (hbase : base ≤ w.heap.size) (hn : n + ls.length ≤ 2000)
    (h : ∀ v' w', w'.ownsRow base 36 3 v' (n + ls.length) (xs ++ rowCells ls) → Below base w w' → K (a.put o.dst v') w') :
    if Region.wanted o (yielded ops a.tmps) = true then Oper.wp Tryd.prog o a w K Q else E := by
  have hw : Region.wanted o (yielded ops a.tmps) = true := by simp [Region.wanted, hg]
  rw [if_pos hw]
  exact wp_append_reads2 s x ho base v u n xs hs hown hx ls hu hbase hn h

theorem heap_two (W : World) (A : Obj) (cs : Array Value) (T : TypeId) : ((W.alloc A).alloc (.cells cs T)).heap[W.heap.size + 1]? = some (.cells cs T (0, 0)) := by
  have h := heap_alloc_new (W.alloc A) (.cells cs T)
  have e : (W.alloc A).heap.size = W.heap.size + 1 := by simp
  rw [e] at h; exact h
theorem reads_take2 {w : World} {p : Option Addr} {n cap : Nat} {ls : List Lx} (k : Nat) (hk : k ≤ n) (h : ReadsLx w (.slice p n cap) ls) : ReadsLx w (.slice p k cap) (ls.take k) := by
  obtain ⟨q, c, e, hl, h0⟩ := h
  simp only [Value.slice.injEq] at e
  obtain ⟨rfl, hn, rfl⟩ := e
  have hkl : (ls.take k).length = k := by simp; omega
  refine ⟨p, cap, by rw [hkl], by omega, ?_⟩
  rcases h0 with h0 | ⟨b, off, hp, hc⟩
  · exact .inl (by omega)
  · refine .inr ⟨b, off, hp, fun i hi => ?_⟩
    have hi' : i < ls.length := by omega
    have := hc i hi'
    simpa using this

set_option maxRecDepth 100000 in
set_option maxHeartbeats 8000000 in
theorem refPatch_ok (L N : List Lx) (n m cap cu : Nat) (a : Addr) (pu : Option Addr) (F T H K : Nat) (put : List UInt8) (G : Int) (w : World) (hn : n = L.length) (hm : m = N.length) (hcap : n ≤ cap)
    (hv : ReadsLx w (.slice (some a) n cap) L) (hu : ReadsLx w (.slice pu m cu) N) (hl : n ≤ 900) (hlm : m ≤ 900) (hput : put.length ≤ 2500) (hFT : F ≤ T) (hT : T ≤ 2500) (hHK : H + K ≤ n) (hsum : H + m + K ≤ 900) (hG : G = (put.length : Int) - ((T : Int) - F)) (hp1 : plF L = true) (hp2 : plF N = true) :
    Calls Tryd.prog 8 #[.slice (some a) n cap, .agg #[.int .i64 F, .int .i64 T, .string (mkS put)], .agg #[.int .i64 H, .int .i64 K, .slice pu m cu]] w fun e w' =>
      ∃ v', e = .returned (.tuple #[v', .int .i64 0]) ∧ ReadsLx w' v' (patchL L N H K G) ∧ Below w.heap.size w w' := by
  have hpz : (mkS put).size = put.length := mkS_size put
  have C1 : Hid (∀ W, Below w.heap.size w W → Calls Tryd.prog 17 #[.slice (some a) n cap] W fun e w' => e = .returned (.bool true) ∧ W = w') := fun W hW => by
    have := arePlaces_any _ L W (hv.below hW); rw [hp1] at this; exact this
  have C2 : Hid (∀ W, Below w.heap.size w W → Calls Tryd.prog 17 #[.slice pu m cu] W fun e w' => e = .returned (.bool true) ∧ W = w') := fun W hW => by
    have := arePlaces_any _ N W (hu.below hW); rw [hp2] at this; exact this
  have HP := Lib.hid (plF_mem hp1)
  have HV := Lib.hid hv
  have HU := Lib.hid hu
  have HRT := Lib.hid (reads_take2 H (by omega) hv)
  have HN := Lib.hid hn
  have HM := Lib.hid hm
  have hht : (L.take H).length = H := by simp; omega
  have HHT := Lib.hid hht
  obtain ⟨Kn, hKn⟩ : ∃ Kn, Kn = n - K := ⟨_, rfl⟩
  have b0 : decide ((900 : Int) < (n : Int)) = false := decide_eq_false (by omega)
  have b0' : decide (900 < n) = false := decide_eq_false (by omega)
  have b1 : decide ((900 : Int) < (m : Int)) = false := decide_eq_false (by omega)
  have b1' : decide (900 < m) = false := decide_eq_false (by omega)
  have b2 : decide ((2500 : Int) < ((mkS put).size : Int)) = false := decide_eq_false (by omega)
  have b2' : decide (2500 < (mkS put).size) = false := decide_eq_false (by omega)
  have b3 : decide ((F : Int) < 0) = false := decide_eq_false (by omega)
  have b4 : decide ((T : Int) < (F : Int)) = false := decide_eq_false (by omega)
  have b4' : decide (T < F) = false := decide_eq_false (by omega)
  have b5 : decide ((2500 : Int) < (T : Int)) = false := decide_eq_false (by omega)
  have b5' : decide (2500 < T) = false := decide_eq_false (by omega)
  have b6 : decide ((H : Int) < 0) = false := decide_eq_false (by omega)
  have b7 : decide ((K : Int) < 0) = false := decide_eq_false (by omega)
  have b8 : decide ((n : Int) < (H : Int)) = false := decide_eq_false (by omega)
  have b8' : decide (n < H) = false := decide_eq_false (by omega)
  have b9 : decide (900 < (H : Int) + (m : Int) + (K : Int)) = false := decide_eq_false (by omega)
  have b9' : decide (900 < H + m + K) = false := decide_eq_false (by omega)
  have s1 : IntKind.i64.wrap ((n : Int) - (H : Int)) = (n : Int) - (H : Int) := IntWalk.i64_in _ (by omega)
  have b10 : decide ((n : Int) - (H : Int) < (K : Int)) = false := decide_eq_false (by omega)
  have s2 : IntKind.i64.wrap ((H : Int) + (m : Int)) = (H : Int) + (m : Int) := IntWalk.i64_in _ (by omega)
  have s3 : IntKind.i64.wrap ((H : Int) + (m : Int) + (K : Int)) = (H : Int) + (m : Int) + (K : Int) := IntWalk.i64_in _ (by omega)
  have s4 : IntKind.i64.wrap ((n : Int) - (K : Int)) = (Kn : Int) := by rw [IntWalk.i64_in _ (by omega)]; omega
  have s5 : IntKind.i64.wrap ((T : Int) - (F : Int)) = (T : Int) - (F : Int) := IntWalk.i64_in _ (by omega)
  have s6 : IntKind.i64.wrap (((mkS put).size : Int) - ((T : Int) - (F : Int))) = G := by rw [IntWalk.i64_in _ (by omega), hG, hpz]
  have hGb : Hid (-2500 ≤ G ∧ G ≤ 2500) := by show _ ∧ _; omega
  have hHc : H ≤ cap := by omega
  have hHI : (H : Int) ≤ (cap : Int) := by omega
  have hKnn : Kn ≤ n := by omega
  obtain ⟨W0, hW0⟩ : ∃ W0, W0 = ((w.alloc (.cells #[.int .i64 F, .int .i64 T, .string (mkS put)] 24)).alloc (.cells #[.int .i64 H, .int .i64 K, .slice pu m cu] 26)) := ⟨_, rfl⟩
  have HW0 : Hid (((w.alloc (.cells #[.int .i64 F, .int .i64 T, .string (mkS put)] 24)).alloc (.cells #[.int .i64 H, .int .i64 K, .slice pu m cu] 26)) = W0) := hW0.symm
  have HB0 : Hid (Below w.heap.size w W0) := by show Below _ _ _; rw [hW0]; exact ((Below.refl _ _).alloc (Nat.le_refl _) _).alloc (by simp) _
  have k0 : W0.cell? ⟨w.heap.size, 0, none⟩ = some (.int .i64 F) := by rw [hW0]; simp [go_sem]
  have k1 : W0.cell? ⟨w.heap.size, 1, none⟩ = some (.int .i64 T) := by rw [hW0]; simp [go_sem]
  have k2 : W0.cell? ⟨w.heap.size, 2, none⟩ = some (.string (mkS put)) := by rw [hW0]; simp [go_sem]
  have m0 : W0.cell? ⟨w.heap.size + 1, 0, none⟩ = some (.int .i64 H) := by rw [hW0]; simp [go_sem]
  have m1 : W0.cell? ⟨w.heap.size + 1, 1, none⟩ = some (.int .i64 K) := by rw [hW0]; simp [go_sem]
  have m2 : W0.cell? ⟨w.heap.size + 1, 2, none⟩ = some (.slice pu m cu) := by rw [hW0]; simp [go_sem]
  have hz : w.heap.size + 1 < W0.heap.size := cell_lt m0
  have hz0 : w.heap.size < W0.heap.size := by omega
  have KS : Hid (∀ W, Below W0.heap.size W0 W → (W.cell? ⟨w.heap.size + 1, 0, none⟩ = some (.int .i64 H) ∧ W.cell? ⟨w.heap.size + 1, 2, none⟩ = some (.slice pu m cu) ∧ w.heap.size + 1 < W.heap.size ∧ Below W0.heap.size W0 W)) := fun W hW => ⟨(hW.cell hz).trans m0, (hW.cell hz).trans m2, Nat.lt_of_lt_of_le hz hW.size, hW⟩
  have KX : Hid (∀ W, Below W0.heap.size W0 W → W.cell? ⟨w.heap.size, 0, none⟩ = some (.int .i64 F) ∧ W.cell? ⟨w.heap.size, 1, none⟩ = some (.int .i64 T) ∧ W.cell? ⟨w.heap.size, 2, none⟩ = some (.string (mkS put)) ∧ W.cell? ⟨w.heap.size + 1, 1, none⟩ = some (.int .i64 K) ∧ w.heap.size + 1 < W.heap.size ∧ Below w.heap.size w W) := fun W hW => ⟨(hW.cell hz0).trans k0, (hW.cell hz0).trans k1, (hW.cell hz0).trans k2, (hW.cell hz).trans m1, Nat.lt_of_lt_of_le hz hW.size, HB0.out.trans (hW.mono (by omega))⟩
  have HV0 : Hid (∀ W, Below W0.heap.size W0 W → ReadsLx W (.slice (some a) H cap) (L.take H) ∧ ReadsLx W (.slice pu m cu) N) := fun W hW => ⟨HRT.out.below (HB0.out.trans (hW.mono (by omega))), HU.out.below (HB0.out.trans (hW.mono (by omega)))⟩
  have HAL : Hid (∀ i, i < n → ∃ b off, a = ⟨b, off, none⟩ ∧ ∀ W, Below w.heap.size w W → W.cell? ⟨b, off + i * 3, none⟩ = some (.int .u8 (L.getD i (0, [], 0)).1) ∧ W.cell? ⟨b, off + i * 3 + 1, none⟩ = some (.string (mkS (L.getD i (0, [], 0)).2.1)) ∧ W.cell? ⟨b, off + i * 3 + 2, none⟩ = some (.int .i64 (L.getD i (0, [], 0)).2.2) ∧ b < W.heap.size) := fun i hi => by
    obtain ⟨b, off, cap', hsl, c1, c2, c3⟩ := reads_at HV.out i (by rw [← HN.out]; exact hi)
    simp only [Value.slice.injEq, Option.some.injEq] at hsl
    exact ⟨b, off, hsl.1, fun W hW => ⟨(hW.cell (cell_lt c1)).trans c1, (hW.cell (cell_lt c2)).trans c2, (hW.cell (cell_lt c3)).trans c3, Nat.lt_of_lt_of_le (cell_lt c1) hW.size⟩⟩
  have HFin : Hid (L.take H ++ N ++ ((L.drop Kn).take (n - Kn)).map (movT G) = patchL L N H K G) := by
    show _ = _
    unfold patchL
    rw [show ((L.drop Kn).take (n - Kn)) = L.drop Kn from List.take_of_length_le (by simp; omega), hKn, hn]
  have hKK := Lib.hid hKn
  have HL0 : Hid (H + N.length ≤ 2000) := by show _ ≤ _; omega
  have HL1 : Hid (0 + (L.take H).length ≤ 2000) := by show _ ≤ _; omega
  clear hn hm hv hu hp1 hp2 hpz hht hKn hG hW0 k0 k1 k2 hput hFT hT
  go_enter Tryd.func8, Tryd.ntmps8
  go_wp2_with fail
  simp only [HW0.out]
  refine (C1.out _ HB0.out).mono ?_
  rintro e w' ⟨rfl, rfl⟩
  go_wp2_with fail
  refine (C2.out _ HB0.out).mono ?_
  rintro e w' ⟨rfl, rfl⟩
  go_wp2
  go_region_held3 (fun W => W.cell? ⟨w.heap.size + 1, 0, none⟩ = some (.int .i64 H) ∧ W.cell? ⟨w.heap.size + 1, 2, none⟩ = some (.slice pu m cu) ∧ w.heap.size + 1 < W.heap.size ∧ Below W0.heap.size W0 W)
    (first | exact KS.out _ (by first | assumption | exact (Below.refl _ _).drew | exact Below.refl _ _ | (refine Below.drew ?_; assumption)))
    (first
      | (refine step_append_reads2 rfl _ _ rfl W0.heap.size _ _ 0 [] rfl (World.ownsRow_nil _ _ _ _) rfl (L.take H) (HV0.out _ (by first | assumption | exact (Below.refl _ _).drew | exact Below.refl _ _ | (refine Below.drew ?_; assumption))).1 (Below.size (w := W0) (B := W0.heap.size) (by first | assumption | exact (Below.refl _ _).drew | exact Below.refl _ _ | (refine Below.drew ?_; assumption))) HL1.out ?_; intro va wa hownA hbA; have hbA2 : Below W0.heap.size W0 wa := Below.trans (by first | assumption | exact (Below.refl _ _).drew | exact Below.refl _ _ | (refine Below.drew ?_; assumption)) hbA; have hownA2 : wa.ownsRow W0.heap.size 36 3 va H (rowCells (L.take H)) := by have := hownA; simp only [Nat.zero_add, List.nil_append, HHT.out] at this; exact this)
      | (refine step_append_reads2 rfl _ _ rfl W0.heap.size _ _ H (rowCells (L.take H)) rfl (by first | assumption | exact World.ownsRow.drew (by assumption)) rfl N (HV0.out _ (by first | assumption | exact (Below.refl _ _).drew | exact Below.refl _ _ | (refine Below.drew ?_; assumption))).2 (Below.size (w := W0) (B := W0.heap.size) (by first | assumption | exact (Below.refl _ _).drew | exact Below.refl _ _ | (refine Below.drew ?_; assumption))) HL0.out ?_; intro vb wb hownB hbB; have hbB2 : Below W0.heap.size W0 wb := Below.trans (by first | assumption | exact (Below.refl _ _).drew | exact Below.refl _ _ | (refine Below.drew ?_; assumption)) hbB))
  have HO : Hid (wb.ownsRow W0.heap.size 36 3 vb (H + m) (rowCells (L.take H ++ N))) := by
    show World.ownsRow _ _ _ _ _ _ _
    rw [rowCells_app, HM.out]; exact hownB
  have HBB := Lib.hid hbB2
  have hVB := HO.out
  obtain ⟨pb, cb, rfl⟩ := ownsRow_slice hVB
  obtain ⟨_, _, _, x3, x4, _⟩ := KX.out _ hbB2
  clear hVB hownA hbA hbA2 hownA2 hownB hbB hbB2 m0 m1 m2
  go_wp2
  go_loopw [8, 9] (fun o i wr => ∃ j : Nat, Kn ≤ j ∧ j ≤ n ∧ i = .int .i64 j ∧ wr.ownsRow W0.heap.size 36 3 o (H + m + (j - Kn)) (rowCells (L.take H ++ N ++ ((L.drop Kn).take (j - Kn)).map (movT G))) ∧ Hid (Below W0.heap.size W0 wr)) (fun _ i _ => n - (intOf i).toNat)
  case atStart => exact ⟨Kn, Nat.le_refl _, hKnn, rfl, by simpa using HO.out, HBB.out⟩
  case round =>
    obtain ⟨j, hj1, hj2, rfl, hown, hbel⟩ := hrel
    obtain ⟨x0, x1, x2, x3, x4, x5⟩ := KX.out _ hbel.out
    have HX5 := Lib.hid x5
    have x6 : w.heap.size < wr.heap.size := by omega
    clear x5
    obtain ⟨po, co, rfl⟩ := ownsRow_slice hown
    by_cases hlt : j < n
    · obtain ⟨b, off, rfl, hcells⟩ := HAL.out j hlt
      obtain ⟨d1, d2, d3, hb⟩ := hcells wr HX5.out
      obtain ⟨y, hy⟩ : ∃ y, y = L.getD j (0, [], 0) := ⟨_, rfl⟩
      rw [← hy] at d1 d2 d3
      have hyb : 0 ≤ y.2.2 ∧ y.2.2 ≤ 2500 := by
        refine HP.out y ?_
        have hjl : j < L.length := by rw [← HN.out]; exact hlt
        rw [hy, show L.getD j (0, [], 0) = L[j] by simp [List.getD_eq_getElem?_getD, hjl]]
        exact List.getElem_mem _
      have HST : Hid ((L.drop Kn).take (j + 1 - Kn) = (L.drop Kn).take (j - Kn) ++ [y]) := by
        show _ = _
        have hjl : j < L.length := by rw [← HN.out]; exact hlt
        have hlen : j - Kn < (L.drop Kn).length := by simp; omega
        rw [show j + 1 - Kn = (j - Kn) + 1 by omega, List.take_succ_eq_append_getElem hlen, List.getElem_drop]
        have e : L[Kn + (j - Kn)]'(by omega) = y := by
          rw [hy, List.getD_eq_getElem?_getD, List.getElem?_eq_getElem hjl]
          simp only [Option.getD_some]
          congr 1
          omega
        rw [e]
      obtain ⟨y1, y2, y3⟩ := y
      simp only at d1 d2 d3 hyb
      have w7 : IntKind.i64.wrap (y3 + G) = y3 + G := IntWalk.i64_in _ (by have := hGb.out; omega)
      have hjI : (j : Int) < (n : Int) := by omega
      have HOW := Lib.hid hown
      clear hy hown hcells HAL hyb
      go_wp2_with (at_builtin; (refine wpList_append_reads rfl _ _ rfl W0.heap.size _ _ (H + m + (j - Kn)) _ rfl ((HOW.out.alloc _).alloc _) rfl [movT G (y1, y2, y3)] (reads_row (ls := [movT G (y1, y2, y3)]) (heap_two wr _ _ _) rfl (by simp)) (by have := hbel.out.size; simp; omega) (by simp; omega) ?_))
      intro v' w5 hown5 hb5
      have HO5 : Hid (w5.ownsRow W0.heap.size 36 3 v' (H + m + (j + 1 - Kn)) (rowCells (L.take H ++ N ++ ((L.drop Kn).take (j + 1 - Kn)).map (movT G)))) := by
        show World.ownsRow _ _ _ _ _ _ _
        rw [HST.out, List.map_append, ← List.append_assoc, rowCells_app, show H + m + (j + 1 - Kn) = H + m + (j - Kn) + 1 by omega]
        simpa using hown5
      have HB5 := Lib.hid (((hbel.out.alloc hbel.out.size _).alloc (by have := hbel.out.size; simp; omega) _).trans hb5)
      clear hown5 hb5
      go_wp2
      go_roundw
      case rel => exact ⟨j + 1, by omega, by omega, by go_num, HO5.out, HB5.out⟩
      case measure => simp [intOf]; omega
    · have hjn : j = n := by omega
      have e2 : L.take H ++ N ++ ((L.drop Kn).take (j - Kn)).map (movT G) = patchL L N H K G := by rw [hjn]; exact HFin.out
      have e : H + m + (j - Kn) = (patchL L N H K G).length := by
        rw [← e2]
        have h1 := HN.out; have h2 := HM.out; have h3 := HHT.out
        simp; omega
      have HRD : Hid (ReadsLx wr (.slice po (H + m + (j - Kn)) co) (patchL L N H K G)) := by
        show ReadsLx _ _ _
        have h0 := hown
        rw [e2, e] at h0
        rw [e]
        exact reads_own h0 (by rw [← e]; omega)
      have HFN : Hid (Below w.heap.size w wr) := Lib.hid HX5.out
      clear hown e e2 hjn
      have hjI : ¬ (j : Int) < (n : Int) := by omega
      go_wp2
      go_ret2
      exact ⟨_, rfl, HRD.out, HFN.out⟩

set_option maxRecDepth 100000 in
set_option maxHeartbeats 8000000 in
theorem refPatch_nil (N : List Lx) (m cu : Nat) (pu : Option Addr) (F T : Nat) (put : List UInt8) (G : Int) (w : World) (hm : m = N.length)
    (hu : ReadsLx w (.slice pu m cu) N) (hlm : m ≤ 900) (hput : put.length ≤ 2500) (hFT : F ≤ T) (hT : T ≤ 2500) (hp2 : plF N = true) :
    Calls Tryd.prog 8 #[.slice none 0 0, .agg #[.int .i64 F, .int .i64 T, .string (mkS put)], .agg #[.int .i64 0, .int .i64 0, .slice pu m cu]] w fun e w' =>
      ∃ v', e = .returned (.tuple #[v', .int .i64 0]) ∧ ReadsLx w' v' (patchL [] N 0 0 G) ∧ Below w.heap.size w w' := by
  have hpz : (mkS put).size = put.length := mkS_size put
  have hv0 : ∀ W : World, ReadsLx W (.slice none 0 0) [] := fun W => ⟨none, 0, rfl, by simp, .inl rfl⟩
  have C1 : Hid (∀ W, Below w.heap.size w W → Calls Tryd.prog 17 #[.slice none 0 0] W fun e w' => e = .returned (.bool true) ∧ W = w') := fun W hW => by
    have := arePlaces_any _ [] W (hv0 W); exact this
  have C2 : Hid (∀ W, Below w.heap.size w W → Calls Tryd.prog 17 #[.slice pu m cu] W fun e w' => e = .returned (.bool true) ∧ W = w') := fun W hW => by
    have := arePlaces_any _ N W (hu.below hW); rw [hp2] at this; exact this
  have HU := Lib.hid hu
  have HM := Lib.hid hm
  have b1 : decide ((900 : Int) < (m : Int)) = false := decide_eq_false (by omega)
  have b1' : decide (900 < m) = false := decide_eq_false (by omega)
  have b2 : decide ((2500 : Int) < ((mkS put).size : Int)) = false := decide_eq_false (by omega)
  have b2' : decide (2500 < (mkS put).size) = false := decide_eq_false (by omega)
  have b3 : decide ((F : Int) < 0) = false := decide_eq_false (by omega)
  have b4 : decide ((T : Int) < (F : Int)) = false := decide_eq_false (by omega)
  have b4' : decide (T < F) = false := decide_eq_false (by omega)
  have b5 : decide ((2500 : Int) < (T : Int)) = false := decide_eq_false (by omega)
  have b5' : decide (2500 < T) = false := decide_eq_false (by omega)
  have s2 : IntKind.i64.wrap ((0 : Int) + (m : Int)) = (m : Int) := by rw [IntWalk.i64_in _ (by omega)]; omega
  have s2' : IntKind.i64.wrap (m : Int) = (m : Int) := IntWalk.i64_in _ (by omega)
  have s3 : IntKind.i64.wrap ((m : Int) + 0) = (m : Int) := by rw [IntWalk.i64_in _ (by omega)]; omega
  obtain ⟨W0, hW0⟩ : ∃ W0, W0 = ((w.alloc (.cells #[.int .i64 F, .int .i64 T, .string (mkS put)] 24)).alloc (.cells #[.int .i64 0, .int .i64 0, .slice pu m cu] 26)) := ⟨_, rfl⟩
  have HW0 : Hid (((w.alloc (.cells #[.int .i64 F, .int .i64 T, .string (mkS put)] 24)).alloc (.cells #[.int .i64 0, .int .i64 0, .slice pu m cu] 26)) = W0) := hW0.symm
  have HB0 : Hid (Below w.heap.size w W0) := by show Below _ _ _; rw [hW0]; exact ((Below.refl _ _).alloc (Nat.le_refl _) _).alloc (by simp) _
  have k0 : W0.cell? ⟨w.heap.size, 0, none⟩ = some (.int .i64 F) := by rw [hW0]; simp [go_sem]
  have k1 : W0.cell? ⟨w.heap.size, 1, none⟩ = some (.int .i64 T) := by rw [hW0]; simp [go_sem]
  have k2 : W0.cell? ⟨w.heap.size, 2, none⟩ = some (.string (mkS put)) := by rw [hW0]; simp [go_sem]
  have m0 : W0.cell? ⟨w.heap.size + 1, 0, none⟩ = some (.int .i64 0) := by rw [hW0]; simp [go_sem]
  have m1 : W0.cell? ⟨w.heap.size + 1, 1, none⟩ = some (.int .i64 0) := by rw [hW0]; simp [go_sem]
  have m2 : W0.cell? ⟨w.heap.size + 1, 2, none⟩ = some (.slice pu m cu) := by rw [hW0]; simp [go_sem]
  have hz : w.heap.size + 1 < W0.heap.size := cell_lt m0
  have hz0 : w.heap.size < W0.heap.size := by omega
  have KS : Hid (∀ W, Below W0.heap.size W0 W → (W.cell? ⟨w.heap.size + 1, 0, none⟩ = some (.int .i64 0) ∧ W.cell? ⟨w.heap.size + 1, 2, none⟩ = some (.slice pu m cu) ∧ w.heap.size + 1 < W.heap.size ∧ Below W0.heap.size W0 W)) := fun W hW => ⟨(hW.cell hz).trans m0, (hW.cell hz).trans m2, Nat.lt_of_lt_of_le hz hW.size, hW⟩
  have KX : Hid (∀ W, Below W0.heap.size W0 W → W.cell? ⟨w.heap.size + 1, 1, none⟩ = some (.int .i64 0) ∧ w.heap.size + 1 < W.heap.size ∧ Below w.heap.size w W) := fun W hW => ⟨(hW.cell hz).trans m1, Nat.lt_of_lt_of_le hz hW.size, HB0.out.trans (hW.mono (by omega))⟩
  have HV0 : Hid (∀ W, Below W0.heap.size W0 W → ReadsLx W (.slice none 0 0) [] ∧ ReadsLx W (.slice pu m cu) N) := fun W hW => ⟨hv0 W, HU.out.below (HB0.out.trans (hW.mono (by omega)))⟩
  have HFin : Hid (N = patchL [] N 0 0 G) := by show _ = _; simp [patchL]
  have HL0 : Hid (0 + N.length ≤ 2000) := by show _ ≤ _; omega
  have HL1 : Hid (0 + ([] : List Lx).length ≤ 2000) := by show _ ≤ _; simp
  clear hm hu hp2 hpz hW0 k0 k1 k2 hput hFT hT hv0
  go_enter Tryd.func8, Tryd.ntmps8
  go_wp2_with fail
  simp only [HW0.out]
  refine (C1.out _ HB0.out).mono ?_
  rintro e w' ⟨rfl, rfl⟩
  go_wp2_with fail
  refine (C2.out _ HB0.out).mono ?_
  rintro e w' ⟨rfl, rfl⟩
  go_wp2
  go_region_held3 (fun W => W.cell? ⟨w.heap.size + 1, 0, none⟩ = some (.int .i64 0) ∧ W.cell? ⟨w.heap.size + 1, 2, none⟩ = some (.slice pu m cu) ∧ w.heap.size + 1 < W.heap.size ∧ Below W0.heap.size W0 W)
    (first | exact KS.out _ (by first | assumption | exact (Below.refl _ _).drew | exact Below.refl _ _ | (refine Below.drew ?_; assumption)))
    (first
      | (refine step_append_reads2 rfl _ _ rfl W0.heap.size _ _ 0 [] rfl (World.ownsRow_nil _ _ _ _) rfl [] (HV0.out _ (by first | assumption | exact (Below.refl _ _).drew | exact Below.refl _ _ | (refine Below.drew ?_; assumption))).1 (Below.size (w := W0) (B := W0.heap.size) (by first | assumption | exact (Below.refl _ _).drew | exact Below.refl _ _ | (refine Below.drew ?_; assumption))) HL1.out ?_; intro va wa hownA hbA; have hbA2 : Below W0.heap.size W0 wa := Below.trans (by first | assumption | exact (Below.refl _ _).drew | exact Below.refl _ _ | (refine Below.drew ?_; assumption)) hbA; have hownA2 : wa.ownsRow W0.heap.size 36 3 va 0 [] := by have := hownA; simpa [rowCells] using this)
      | (refine step_append_reads2 rfl _ _ rfl W0.heap.size _ _ 0 [] rfl (by first | assumption | exact World.ownsRow.drew (by assumption)) rfl N (HV0.out _ (by first | assumption | exact (Below.refl _ _).drew | exact Below.refl _ _ | (refine Below.drew ?_; assumption))).2 (Below.size (w := W0) (B := W0.heap.size) (by first | assumption | exact (Below.refl _ _).drew | exact Below.refl _ _ | (refine Below.drew ?_; assumption))) HL0.out ?_; intro vb wb hownB hbB; have hbB2 : Below W0.heap.size W0 wb := Below.trans (by first | assumption | exact (Below.refl _ _).drew | exact Below.refl _ _ | (refine Below.drew ?_; assumption)) hbB))
  have HO : Hid (wb.ownsRow W0.heap.size 36 3 vb N.length (rowCells N)) := by
    show World.ownsRow _ _ _ _ _ _ _
    simpa using hownB
  have HBB := Lib.hid hbB2
  obtain ⟨x4, x5, x6⟩ := KX.out _ hbB2
  have HX6 := Lib.hid x6
  clear hownA hbA hbA2 hownA2 hownB hbB hbB2 m0 m1 m2 x6
  go_wp2
  go_loopw [8, 9] (fun o i wr => o = vb ∧ i = .int .i64 0 ∧ wr = wb) (fun _ _ _ => 0)
  case atStart => exact ⟨rfl, rfl, rfl⟩
  case round =>
    obtain ⟨rfl, rfl, rfl⟩ := hrel
    go_wp2
    go_ret2
    refine ⟨_, rfl, ?_, HX6.out⟩
    rw [← HFin.out]
    have h2 := HM.out
    exact reads_own HO.out (by omega)
end Go.Proofs.YtlhbfgkcalalkaaDoor
