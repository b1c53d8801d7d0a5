/- Shapes in memory; the contracts of deeper. -/
import Derived.Test.YtgbjelglifihnaaDoorOrN
set_option linter.unusedVariables false
set_option linter.unusedSimpArgs false
namespace Go.Proofs.YtgbjelglifihnaaDoor.Or
open Go.RowKit

/-- A shape: its kind, its name, its kids. -/
inductive Shp where
  | mk (k : Nat) (nm : List UInt8) (kids : List Shp)
def Shp.k : Shp → Nat | .mk k _ _ => k
def Shp.nm : Shp → List UInt8 | .mk _ n _ => n
def Shp.kids : Shp → List Shp | .mk _ _ l => l
def Shp.kid (s : Shp) (i : Nat) : Shp := s.kids.getD i (.mk 0 [] [])
def Shp.n (s : Shp) : Nat := s.kids.length

/-- The value of a shape, by the list of its kids. -/
def shpV (s : Shp) (v : Value) : Value := .agg #[.int .u8 s.k, .string (mkS s.nm), v]
/-- A list of shapes in memory, by what is known of the lists of their kids. -/
def Rd3 (w : World) (v : Value) (n : Nat) (x : Nat → Shp) (y : Nat → Value → Prop) : Prop :=
  ∃ (p : Option Addr) (cap : Nat), v = .slice p n cap ∧ (n ≤ 1000 ∧ n ≤ cap) ∧
    (n = 0 ∨ ∃ b off, p = some ⟨b, off, none⟩ ∧ ∀ i, i < n → ∃ q c, w.cell? ⟨b, off + i * 3, none⟩ = some (.int .u8 (x i).k) ∧ w.cell? ⟨b, off + i * 3 + 1, none⟩ = some (.string (mkS (x i).nm)) ∧ w.cell? ⟨b, off + i * 3 + 2, none⟩ = some (.slice q (x i).n c) ∧ y i (.slice q (x i).n c))
/-- The list of the kids of a shape in memory. -/
def KidIn : Nat → World → Value → Shp → Prop
  | 0, _, _, _ => False
  | d + 1, w, v, s => (s.k < 256 ∧ s.nm.length ≤ 1000000) ∧ Rd3 w v s.n s.kid fun i u => KidIn d w u (s.kid i)
theorem Rd3.below {w w' : World} {v : Value} {n : Nat} {x : Nat → Shp} {y y' : Nat → Value → Prop} (h : Rd3 w v n x y) (hb : Below w.heap.size w w') (hy : ∀ i u, i < n → y i u → y' i u) : Rd3 w' v n x y' := by
  obtain ⟨p, cap, rfl, hl, h0⟩ := h
  refine ⟨p, cap, rfl, hl, ?_⟩
  rcases h0 with h0 | ⟨b, off, rfl, hc⟩
  · exact .inl h0
  · refine .inr ⟨b, off, rfl, fun i hi => ?_⟩
    obtain ⟨q, c, h1, h2, h3, h4⟩ := hc i hi
    exact ⟨q, c, (hb.cell (cell_lt h1)).trans h1, (hb.cell (cell_lt h2)).trans h2, (hb.cell (cell_lt h3)).trans h3, hy i _ hi h4⟩
theorem KidIn.below : ∀ {d : Nat} {w w' : World} {v : Value} {s : Shp}, KidIn d w v s → Below w.heap.size w w' → KidIn d w' v s
  | 0, _, _, _, _, h, _ => h
  | d + 1, w, w', v, s, h, hb => ⟨h.1, h.2.below hb fun i u _ hu => KidIn.below hu hb⟩
theorem KidIn.form {d : Nat} {w : World} {v : Value} {s : Shp} (h : KidIn d w v s) : ∃ p c, v = .slice p s.n c := by
  cases d with
  | zero => exact h.elim
  | succ d => obtain ⟨p, c, e, _⟩ := h.2; exact ⟨p, c, e⟩
theorem KidIn.len {d : Nat} {w : World} {v : Value} {s : Shp} (h : KidIn d w v s) : s.n ≤ 1000 := by
  cases d with
  | zero => exact h.elim
  | succ d => obtain ⟨p, c, e, h1, _⟩ := h.2; exact h1.1
theorem KidIn.kidAt {d : Nat} {w : World} {p : Option Addr} {n c : Nat} {s : Shp} (h : KidIn (d + 1) w (.slice p n c) s) {i : Nat} (hi : i < s.n) :
    ∃ b off q c', p = some ⟨b, off, none⟩ ∧ w.cell? ⟨b, off + i * 3, none⟩ = some (.int .u8 (s.kid i).k) ∧ w.cell? ⟨b, off + i * 3 + 1, none⟩ = some (.string (mkS (s.kid i).nm)) ∧ w.cell? ⟨b, off + i * 3 + 2, none⟩ = some (.slice q (s.kid i).n c') ∧ KidIn d w (.slice q (s.kid i).n c') (s.kid i) := by
  obtain ⟨p', c', he, hl, h0⟩ := h.2
  simp only [Value.slice.injEq] at he
  obtain ⟨rfl, rfl, rfl⟩ := he
  rcases h0 with h0 | ⟨b, off, rfl, hc⟩
  · omega
  · obtain ⟨q, c, h1, h2, h3, h4⟩ := hc i hi
    exact ⟨b, off, q, c, rfl, h1, h2, h3, h4⟩

/-- Whether a shape has more levels than some. -/
def deepF : Nat → Shp → Bool
  | 0, _ => true
  | l + 1, s => (List.range s.n).any fun i => deepF l (s.kid i)

set_option maxRecDepth 100000 in
set_option maxHeartbeats 2000000 in
theorem indexShp_any (d : Nat) (v : Value) (s : Shp) (g : Nat) (lb : Array Value) (p : Nat → Bool) (w : World) (hv : KidIn (d + 1) w v s) (eg : ∀ args w, (callFunc g args).run Tryd.prog w = .ok (.enter g args) w)
    (hp : ∀ i W u, i < s.n → Below w.heap.size w W → KidIn d W u (s.kid i) → Calls Tryd.prog g (#[shpV (s.kid i) u] ++ lb) W fun e W' => e = .returned (.bool (p i)) ∧ Below W.heap.size W W') :
    Calls Tryd.prog 143 #[v, .func (.func g) #[] lb] w fun e w' => ∃ r : Int, e = .returned (.int .i64 r) ∧ decide (0 ≤ r) = (List.range s.n).any p ∧ Below w.heap.size w w' := by
  have hl := hv.len
  obtain ⟨q, cap, rfl⟩ := hv.form
  have HV := Lib.hid hv; have HP := Lib.hid hp
  obtain ⟨n, hn⟩ : ∃ n, n = s.n := ⟨_, rfl⟩
  rw [← hn] at hl HV HP ⊢
  have HN := Lib.hid hn
  clear hv hp hn
  go_enter Tryd.func143, Tryd.ntmps143
  go_wp2
  go_loopw [8] (fun i wr => ∃ k : Nat, k ≤ n ∧ i = .int .i64 k ∧ Hid ((List.range k).any p = false) ∧ Hid (Below w.heap.size w wr)) (fun i _ => n - (intOf i).toNat)
  case atStart => exact ⟨0, Nat.zero_le _, rfl, rfl, Below.refl _ _⟩
  case round =>
    obtain ⟨k, hk, rfl, hr, hb⟩ := hrel
    by_cases hlt : k < n
    · obtain ⟨b, off, q', c', rfl, h1, h2, h3, h4⟩ := (HV.out.below hb.out).kidAt (i := k) (by have := HN.out; omega)
      have C := Lib.hid (HP.out k wr _ hlt hb.out h4)
      unfold shpV at C
      clear h4
      cases hpk : p k with
      | true =>
        have HS : Hid ((List.range n).any p = true) := by show _ = _; rw [List.any_eq_true]; exact ⟨k, List.mem_range.2 hlt, hpk⟩
        rw [hpk] at C
        clear hpk hr
        go_wp2_with fail
        refine C.out.mono ?_
        rintro e w1 ⟨rfl, hb1⟩
        have HB1 := Lib.hid (hb.out.trans (hb1.mono hb.out.size))
        clear hb1
        go_wp2
        go_ret
        exact ⟨k, rfl, by rw [HS.out]; exact decide_eq_true (by omega), HB1.out⟩
      | false =>
        have HS : Hid ((List.range (k + 1)).any p = false) := by show _ = _; rw [List.range_succ, List.any_append, hr.out]; simp [hpk]
        rw [hpk] at C
        clear hpk hr
        go_wp2_with fail
        refine C.out.mono ?_
        rintro e w1 ⟨rfl, hb1⟩
        have HB1 := Lib.hid (hb.out.trans (hb1.mono hb.out.size))
        clear hb1
        go_wp2
        go_roundw
        case rel => exact ⟨k + 1, by omega, by go_num, HS, HB1⟩
        case measure => simp [intOf]; omega
    · have HS : Hid ((List.range n).any p = false) := by show _ = _; rw [show n = k by omega]; exact hr.out
      clear hr
      go_wp2
      go_ret
      exact ⟨-1, rfl, by rw [HS.out]; rfl, hb.out⟩

set_option maxRecDepth 100000 in
set_option maxHeartbeats 2000000 in
theorem containsShp_any (d : Nat) (v : Value) (s : Shp) (g : Nat) (lb : Array Value) (p : Nat → Bool) (w : World) (hv : KidIn (d + 1) w v s) (eg : ∀ args w, (callFunc g args).run Tryd.prog w = .ok (.enter g args) w)
    (hp : ∀ i W u, i < s.n → Below w.heap.size w W → KidIn d W u (s.kid i) → Calls Tryd.prog g (#[shpV (s.kid i) u] ++ lb) W fun e W' => e = .returned (.bool (p i)) ∧ Below W.heap.size W W') :
    Calls Tryd.prog 121 #[v, .func (.func g) #[] lb] w fun e w' => e = .returned (.bool ((List.range s.n).any p)) ∧ Below w.heap.size w w' := by
  have C := Lib.hid (indexShp_any d v s g lb p w hv eg hp)
  obtain ⟨q, cap, rfl⟩ := hv.form
  obtain ⟨r, hr⟩ : ∃ r, r = (List.range s.n).any p := ⟨_, rfl⟩
  rw [← hr] at C ⊢
  clear hv hp hr
  go_enter Tryd.func121, Tryd.ntmps121
  go_wp2_with fail
  refine C.out.mono ?_
  rintro e w1 ⟨i, rfl, hd, hb⟩
  have HB := Lib.hid hb; have HD := Lib.hid hd
  clear hb hd
  go_wp2
  go_ret
  exact ⟨ret_bool HD.out, HB.out⟩

set_option maxRecDepth 100000 in
set_option maxHeartbeats 2000000 in
theorem deeper_any : ∀ (l d : Nat) (s : Shp) (v : Value) (w : World), l ≤ 1000 → KidIn d w v s →
    Calls Tryd.prog 85 #[shpV s v, .int .i64 l] w fun e w' => e = .returned (.bool (deepF l s)) ∧ Below w.heap.size w w' := by
  intro l
  induction l with
  | zero =>
    intro d s v w _ hv
    obtain ⟨q, cap, rfl⟩ := hv.form
    clear hv
    unfold shpV
    go_enter Tryd.func85, Tryd.ntmps85
    go_wp2
    go_ret
    exact ⟨rfl, ((Below.refl _ _).alloc (Nat.le_refl _) _).alloc (by simp) _⟩
  | succ l ih =>
    intro d s v w hl hv
    cases d with
    | zero => exact hv.elim
    | succ d =>
    have IH := Lib.hid ih
    have C1 : Hid (∀ (u : Value) (i : Nat) (W : World) (B : Nat), W.cell? ⟨B, 0, none⟩ = some (.int .i64 ((l + 1 : Nat) : Int)) → KidIn d W u (s.kid i) → Calls Tryd.prog 122 #[shpV (s.kid i) u, .pointer (some ⟨B, 0, none⟩)] W fun e W' => e = .returned (.bool (deepF l (s.kid i))) ∧ Below W.heap.size W W') := fun u i W B hB hu => by
      have hwr : ∀ W2, Below W.heap.size W W2 → Calls Tryd.prog 85 #[shpV (s.kid i) u, .int .i64 l] W2 fun e w' => e = .returned (.bool (deepF l (s.kid i))) ∧ Below W2.heap.size W2 w' := fun W2 h2 => IH.out d (s.kid i) u W2 (by omega) (hu.below h2)
      have HWR := Lib.hid hwr
      have lB : B < W.heap.size := cell_lt hB
      obtain ⟨q, cap, rfl⟩ := hu.form
      clear hwr hu
      unfold shpV at HWR ⊢
      go_enter Tryd.func122, Tryd.ntmps122
      go_wp2_with fail
      refine (HWR.out _ ((Below.refl _ _).alloc (Nat.le_refl _) _)).mono ?_
      rintro e w1 ⟨rfl, hb⟩
      have HB := Lib.hid (((Below.refl W.heap.size W).alloc (Nat.le_refl _) _).trans (hb.mono (by simp)))
      clear hb
      go_wp2
      go_ret
      exact ⟨rfl, HB.out⟩
    obtain ⟨W2, hW2⟩ : ∃ W2, W2 = (w.alloc (.cells #[.int .u8 s.k, .string (mkS s.nm), v] 57)).alloc (.cells #[.int .i64 ((l : Int) + 1)] 3) := ⟨_, rfl⟩
    have b2 : Below w.heap.size w W2 := by rw [hW2]; exact ((Below.refl _ _).alloc (Nat.le_refl _) _).alloc (by simp) _
    have c2 : W2.cell? ⟨w.heap.size + 1, 0, none⟩ = some (.int .i64 ((l + 1 : Nat) : Int)) := by rw [hW2]; simp [go_sem]
    have C := Lib.hid (containsShp_any d v s 122 #[.pointer (some ⟨w.heap.size + 1, 0, none⟩)] (fun i => deepF l (s.kid i)) W2 (hv.below b2) (enters_of Tryd.func122 (by kernel_rfl) rfl)
      (fun i W u hi hb hu => C1.out u i W (w.heap.size + 1) ((hb.cell (cell_lt c2)).trans c2) hu))
    obtain ⟨q, cap, rfl⟩ := hv.form
    have HW2 := Lib.hid hW2; have HB2 := Lib.hid b2
    have g0 : (((l : Int) + 1) == 0) = false := by rw [beq_eq_false_iff_ne]; omega
    clear hv ih C1 hW2 b2 c2
    unfold shpV
    go_enter Tryd.func85, Tryd.ntmps85
    go_wp2_with fail
    rw [← HW2.out]
    refine C.out.mono ?_
    rintro e w1 ⟨rfl, hb⟩
    have HB := Lib.hid (HB2.out.trans (hb.mono HB2.out.size))
    clear hb
    go_wp2
    go_ret
    exact ⟨rfl, HB.out⟩
end Go.Proofs.YtgbjelglifihnaaDoor.Or
