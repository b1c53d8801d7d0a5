import Derived.Test.YtfhnigpjmljhbaaDoorOrAb
import Derived.Test.YtfhnigpjmljhbaaDoorOrBu
import Derived.Test.YtfhnigpjmljhbaaDoorOrNa
/- The contract of Text. -/
set_option linter.unusedVariables false
set_option linter.unusedSimpArgs false
namespace Go.Proofs.YtfhnigpjmljhbaaDoor.Or
open Go.RowKit Go.Shelf

/-- Texts with another one between them. -/
def joinT (sep : List UInt8) : List (List UInt8) → List UInt8
  | [] => []
  | [x] => x
  | x :: y :: r => x ++ sep ++ joinT sep (y :: r)
theorem joinT_len (sep : List UInt8) : ∀ (ls : List (List UInt8)) (m : Nat), (∀ x ∈ ls, x.length ≤ m) → (joinT sep ls).length ≤ (m + sep.length) * ls.length
  | [], m, _ => by simp [joinT]
  | [x], m, h => by have := h x (List.mem_cons_self ..); simp [joinT]; omega
  | x :: y :: r, m, h => by
    have h1 := h x (List.mem_cons_self ..)
    have h2 := joinT_len sep (y :: r) m fun z hz => h z (List.mem_cons_of_mem _ hz)
    rw [joinT, List.length_append, List.length_append, List.length_cons, Nat.mul_succ]; omega
/-- What strings.Join must do. -/
def JoinOk : Prop := ∀ (w : World) (v : Value) (ls : List (List UInt8)) (sep : List UInt8), RdS w v ls → ls.length ≤ 1000 → sep.length ≤ 1000 → (∀ x ∈ ls, x.length ≤ 1000000) →
  Calls Tryd.prog 63 #[v, .string (mkS sep)] w fun e w' => e = .returned (.string (mkS (joinT sep ls))) ∧ Below w.heap.size w w'

def textF (t : Tab) : List UInt8 := [108, 97, 116, 116, 105, 99, 101, 32] ++ t.name ++ [32, 123, 32] ++ joinT [59, 32] ((List.range t.n).map (elT t)) ++ [32, 125]
theorem elT_len {t : Tab} (h : frmF t = true) (a : Nat) : (elT t a).length ≤ 181 := by
  have h1 := head_len h a
  have h2 := above_len h a
  have h3 := link_len h [58, 32] (t.above.getD a []) rfl
  unfold elT; rw [List.length_append]; omega
theorem infoStr : (Tryd.prog.info? 9).map (fun i => (i.zero, i.size, i.bytes)) = some (some (.string ⟨#[]⟩), 1, 16) := by kernel_rfl

set_option maxRecDepth 100000 in
set_option maxHeartbeats 2000000 in
theorem text_no (t : Tab) (ve va vw : Value) (w : World) (hT : TabIn w ve va vw t) (hS : Small t) (hL : LaidOk w) (hf : frmF t = false) :
    Calls Tryd.prog 26 #[tabV t ve va vw] w fun e w' => e = .returned (.tuple #[.string ⟨#[]⟩, .int .i64 4]) ∧ Below w.heap.size w w' := by
  obtain ⟨W2, hW2⟩ : ∃ W2, W2 = w.alloc (.cells #[.string (mkS t.name), ve, va, vw] 26) := ⟨_, rfl⟩
  have b2 : Below w.heap.size w W2 := by rw [hW2]; exact (Below.refl _ _).alloc (Nat.le_refl _) _
  have C := Lib.hid (formed_any t ve va vw W2 (hT.below b2) hS (hL.below b2))
  rw [hf] at C
  have HW2 := Lib.hid hW2; have HB2 := Lib.hid b2
  obtain ⟨pe, ce, rfl⟩ := hT.e.form
  obtain ⟨pa, ca, rfl⟩ := hT.a.form
  obtain ⟨pw, cw, rfl⟩ := hT.w.form
  clear hT hS hL hf hW2 b2
  unfold tabV at C ⊢
  go_enter Tryd.func26, Tryd.ntmps26
  go_wp2_with fail
  rw [← HW2.out]
  refine C.out.mono ?_
  rintro e w' ⟨rfl, hb⟩
  go_wp2
  go_ret2
  exact ⟨rfl, HB2.out.trans (hb.mono HB2.out.size)⟩

set_option maxRecDepth 100000 in
set_option maxHeartbeats 8000000 in
theorem text_yes (HJ : JoinOk) (t : Tab) (ve va vw : Value) (w : World) (hT : TabIn w ve va vw t) (hS : Small t) (hL : LaidOk w) (hf : frmF t = true) :
    Calls Tryd.prog 26 #[tabV t ve va vw] w fun e w' => e = .returned (.tuple #[.string (mkS (textF t)), .int .i64 0]) ∧ Below w.heap.size w w' := by
  obtain ⟨i0, hi, hz0, hz1, hz2⟩ := info_parts infoStr
  obtain ⟨W2, hW2⟩ : ∃ W2, W2 = w.alloc (.cells #[.string (mkS t.name), ve, va, vw] 26) := ⟨_, rfl⟩
  have b2 : Below w.heap.size w W2 := by rw [hW2]; exact (Below.refl _ _).alloc (Nat.le_refl _) _
  have c0 : W2.cell? ⟨w.heap.size, 0, none⟩ = some (.string (mkS t.name)) := by rw [hW2]; simp [go_sem]
  have c1 : W2.cell? ⟨w.heap.size, 1, none⟩ = some ve := by rw [hW2]; simp [go_sem]
  have c2 : W2.cell? ⟨w.heap.size, 2, none⟩ = some va := by rw [hW2]; simp [go_sem]
  have c3 : W2.cell? ⟨w.heap.size, 3, none⟩ = some vw := by rw [hW2]; simp [go_sem]
  have C := Lib.hid (formed_any t ve va vw W2 (hT.below b2) hS (hL.below b2))
  rw [hf] at C
  have CE : Hid (∀ W (k : Nat), Below w.heap.size w W → k < t.n → Calls Tryd.prog 62 #[tabV t ve va vw, .int .i64 k] W fun e w' => e = .returned (.string (mkS (elT t k))) ∧ Below W.heap.size W w') := fun W k h hk => elemText_any t ve va vw k W (hT.below h) hf hk
  obtain ⟨n1, n2, n3, n4⟩ := frm_len hf
  have hnl : t.name.length ≤ 12 := by
    have h := hf
    rw [frm_code] at h
    simp only [Bool.and_eq_true] at h
    have h2 := h.2.1.1.1
    unfold tnameF nameF at h2; simp at h2; exact h2.1.1.1.2
  obtain ⟨n, hn⟩ : ∃ n, n = t.n := ⟨_, rfl⟩
  have hne : t.elems.length = n := hn.symm
  have hjl : (joinT [59, 32] ((List.range t.n).map (elT t))).length ≤ 2196 := by
    have := joinT_len [59, 32] ((List.range t.n).map (elT t)) 181 (fun x hx => by
      rw [List.mem_map] at hx
      obtain ⟨a, _, rfl⟩ := hx
      exact elT_len hf a)
    rw [List.length_map, List.length_range] at this
    have : (181 + ([59, 32] : List UInt8).length) * t.n ≤ 183 * 12 := Nat.mul_le_mul (by simp) (by unfold Tab.n; omega)
    omega
  have CJ : Hid (∀ W v, RdS W v ((List.range n).map (elT t)) → Calls Tryd.prog 63 #[v, .string (mkS [59, 32])] W fun e w' => e = .returned (.string (mkS (joinT [59, 32] ((List.range n).map (elT t))))) ∧ Below W.heap.size W w') := fun W v h =>
    HJ W v _ [59, 32] h (by rw [List.length_map, List.length_range]; unfold Tab.n at hn; omega) (by simp) (fun x hx => by
      rw [List.mem_map] at hx
      obtain ⟨a, _, rfl⟩ := hx
      have := elT_len hf a; omega)
  have HTX : Hid (textF t = [108, 97, 116, 116, 105, 99, 101, 32] ++ t.name ++ [32, 123, 32] ++ joinT [59, 32] ((List.range n).map (elT t)) ++ [32, 125]) := by show _ = _; rw [hn]; rfl
  rw [← hn] at CE hjl
  obtain ⟨J, hJ⟩ : ∃ J, J = joinT [59, 32] ((List.range n).map (elT t)) := ⟨_, rfl⟩
  rw [← hJ] at CJ hjl HTX
  have n12 : n ≤ 12 := by unfold Tab.n at hn; omega
  have HW2 := Lib.hid hW2; have HB2 := Lib.hid b2
  obtain ⟨pe, ce, rfl⟩ := hT.e.form
  obtain ⟨pa, ca, rfl⟩ := hT.a.form
  obtain ⟨pw, cw, rfl⟩ := hT.w.form
  rw [hne] at *
  clear hT hS hL hf hW2 b2 hn hJ hne n1 n2 n3 n4
  unfold tabV at C CE ⊢
  go_enter Tryd.func26, Tryd.ntmps26
  go_wp2_with fail
  rw [← HW2.out]
  refine C.out.mono ?_
  rintro e w1 ⟨rfl, hb⟩
  have k0 := (hb.cell (cell_lt c0)).trans c0
  have k1 := (hb.cell (cell_lt c1)).trans c1
  have k2 := (hb.cell (cell_lt c2)).trans c2
  have k3 := (hb.cell (cell_lt c3)).trans c3
  have l0 : w.heap.size < w1.heap.size := cell_lt k0
  have HB1 := Lib.hid (HB2.out.trans (hb.mono HB2.out.size))
  clear hb c0 c1 c2 c3
  go_wp2
  go_loopw [4, 12] (fun v i wr => ∃ k : Nat, k ≤ n ∧ i = .int .i64 k ∧ wr.ownsRow w1.heap.size 9 1 v k (((List.range k).map (elT t)).map strV) ∧ Hid (Below w1.heap.size w1 wr)) (fun _ i _ => n - (intOf i).toNat)
  case atStart => exact ⟨0, Nat.zero_le _, rfl, World.ownsRow_nil _ _ _ _, Below.refl _ _⟩
  case round =>
    obtain ⟨k, hk, rfl, hrow, hbel⟩ := hrel
    have q0 := (hbel.out.cell (p := ⟨w.heap.size, 0, none⟩) l0).trans k0
    have q1 := (hbel.out.cell (p := ⟨w.heap.size, 1, none⟩) l0).trans k1
    have q2 := (hbel.out.cell (p := ⟨w.heap.size, 2, none⟩) l0).trans k2
    have q3 := (hbel.out.cell (p := ⟨w.heap.size, 3, none⟩) l0).trans k3
    obtain ⟨ptr, cap, rfl⟩ := ownsRow_slice hrow
    by_cases hlt : k < n
    · have CEk := Lib.hid (CE.out wr k (HB1.out.trans (hbel.out.mono HB1.out.size)) hlt)
      clear CE CJ HTX
      go_wp2_with fail
      refine CEk.out.mono ?_
      rintro e w2 ⟨rfl, hb2⟩
      have hrow2 := ownsRow_below hrow hb2
      have hbel2 : Below w1.heap.size w1 w2 := hbel.out.trans (hb2.mono hbel.out.size)
      have HLT := Lib.hid hrow2.lt
      have hs2 := hbel2.size
      clear hb2 hrow
      go_wp2_with (at_builtin; refine wpList_append_own _ rfl _ _ 22 rfl w1.heap.size 9 i0 (.string ⟨#[]⟩) 1 16 Tryd.underlying22 hi hz0 hz1 hz2 rfl (by decide) _ _ _ rfl (hrow2.alloc _) ⟨w2.heap.size, 0, none⟩ 1 1 [.string (mkS (elT t k))] rfl rfl ?c1 ?c2 (by unfold maxLen; omega) (by omega) (by simp; omega) ?_)
      case c1 => intro j u hj; match j, hj with | 0, hj => (simp at hj; subst hj; simp [Addr.add])
      case c2 => intro u hu; simp at hu; subst hu; rfl
      intro v' w' hown' hgrow _
      have hbel' : Below w1.heap.size w1 w' := Below.grown (hbel2.alloc hbel2.size _) hgrow (by simp; omega) (fun j hj => (HLT.out j hj).1)
      have hrowN : w'.ownsRow w1.heap.size 9 1 v' (k + 1) (((List.range (k + 1)).map (elT t)).map strV) := by
        rw [List.range_succ, List.map_append, List.map_append]
        simpa [strV] using hown'
      have HB4 := Lib.hid hbel'
      clear hown' hgrow hbel' hrow2 hbel hbel2
      go_wp2
      go_roundw
      case rel => exact ⟨k + 1, by omega, by go_num, hrowN, HB4⟩
      case measure => simp [intOf]; omega
    · have hkn : k = n := by omega
      subst hkn
      have hR : RdS wr (.slice ptr k cap) ((List.range k).map (elT t)) := by
        have := rd_own (vs := ((List.range k).map (elT t)).map strV) (base := w1.heap.size) (e := 9) (v := .slice ptr k cap) (w := wr) (by simpa using hrow) (by simp; omega)
        exact this
      have HR := Lib.hid hR
      have z1 : (mkS t.name).size ≤ 12 := by rw [mkS_size]; exact hnl
      have z2 : (mkS J).size ≤ 2196 := by rw [mkS_size]; exact hjl
      have lwr : w.heap.size < wr.heap.size := cell_lt q0
      have HFIN : Hid (∀ U, Below wr.heap.size wr U → Below w.heap.size w U) := fun U h => (HB1.out.trans (hbel.out.mono HB1.out.size)).trans (h.mono (by have := HB1.out.size; have := hbel.out.size; omega))
      clear hrow hR hbel CE
      go_wp2
      go_region_with (go_at_call 63; refine (CJ.out _ _ (HR.out.below (show Below wr.heap.size wr _ by repeat (first | exact Below.refl _ _ | refine Below.drew ?_)))).mono ?_; rintro e w' ⟨rfl, hbw⟩; have hbV : Below wr.heap.size wr w' := (show Below wr.heap.size wr _ by repeat (first | exact Below.refl _ _ | refine Below.drew ?_)).trans (hbw.mono (by simp)); have x0 := (hbV.cell (p := ⟨w.heap.size, 0, none⟩) lwr).trans q0)
      all_goals
        have hfin := HFIN.out _ hbV
        clear hbV hbw x0
        have HTE : Hid (⟨#[108, 97, 116, 116, 105, 99, 101, 32]⟩ ++ mkS t.name ++ ⟨#[32, 123, 32]⟩ ++ mkS J ++ ⟨#[32, 125]⟩ = mkS (textF t)) := by
          show _ = _
          rw [HTX.out, ← mkS_append, ← mkS_append, ← mkS_append, ← mkS_append]; rfl
        go_wp2
        go_ret2
        exact ⟨(show Ending.returned (.tuple #[.string (⟨#[108, 97, 116, 116, 105, 99, 101, 32]⟩ ++ mkS t.name ++ ⟨#[32, 123, 32]⟩ ++ mkS J ++ ⟨#[32, 125]⟩), .int .i64 0]) = _ from by rw [HTE.out]), by repeat (first | exact hfin | refine Below.drew ?_)⟩
end Go.Proofs.YtfhnigpjmljhbaaDoor.Or

/- Shapes in memory; the contracts of deeper. -/
set_option linter.unusedVariables false
set_option linter.unusedSimpArgs false
namespace Go.Proofs.YtfhnigpjmljhbaaDoor.Or
open Go.RowKit

/-- A shape: its kind, its name, its kids. -/
inductive Shp where
  | mk (k : Nat) (nm : List UInt8) (kids : List Shp)
def Shp.k : Shp → Nat | .mk k _ _ => k
def Shp.nm : Shp → List UInt8 | .mk _ n _ => n
def Shp.kids : Shp → List Shp | .mk _ _ l => l
def Shp.kid (s : Shp) (i : Nat) : Shp := s.kids.getD i (.mk 0 [] [])
def Shp.n (s : Shp) : Nat := s.kids.length

/-- The value of a shape, by the list of its kids. -/
def shpV (s : Shp) (v : Value) : Value := .agg #[.int .u8 s.k, .string (mkS s.nm), v]
/-- A list of shapes in memory, by what is known of the lists of their kids. -/
def Rd3 (w : World) (v : Value) (n : Nat) (x : Nat → Shp) (y : Nat → Value → Prop) : Prop :=
  ∃ (p : Option Addr) (cap : Nat), v = .slice p n cap ∧ (n ≤ 1000 ∧ n ≤ cap) ∧
    (n = 0 ∨ ∃ b off, p = some ⟨b, off, none⟩ ∧ ∀ i, i < n → ∃ q c, w.cell? ⟨b, off + i * 3, none⟩ = some (.int .u8 (x i).k) ∧ w.cell? ⟨b, off + i * 3 + 1, none⟩ = some (.string (mkS (x i).nm)) ∧ w.cell? ⟨b, off + i * 3 + 2, none⟩ = some (.slice q (x i).n c) ∧ y i (.slice q (x i).n c))
/-- The list of the kids of a shape in memory. -/
def KidIn : Nat → World → Value → Shp → Prop
  | 0, _, _, _ => False
  | d + 1, w, v, s => (s.k < 256 ∧ s.nm.length ≤ 1000000) ∧ Rd3 w v s.n s.kid fun i u => KidIn d w u (s.kid i)
theorem Rd3.below {w w' : World} {v : Value} {n : Nat} {x : Nat → Shp} {y y' : Nat → Value → Prop} (h : Rd3 w v n x y) (hb : Below w.heap.size w w') (hy : ∀ i u, i < n → y i u → y' i u) : Rd3 w' v n x y' := by
  obtain ⟨p, cap, rfl, hl, h0⟩ := h
  refine ⟨p, cap, rfl, hl, ?_⟩
  rcases h0 with h0 | ⟨b, off, rfl, hc⟩
  · exact .inl h0
  · refine .inr ⟨b, off, rfl, fun i hi => ?_⟩
    obtain ⟨q, c, h1, h2, h3, h4⟩ := hc i hi
    exact ⟨q, c, (hb.cell (cell_lt h1)).trans h1, (hb.cell (cell_lt h2)).trans h2, (hb.cell (cell_lt h3)).trans h3, hy i _ hi h4⟩
theorem KidIn.below : ∀ {d : Nat} {w w' : World} {v : Value} {s : Shp}, KidIn d w v s → Below w.heap.size w w' → KidIn d w' v s
  | 0, _, _, _, _, h, _ => h
  | d + 1, w, w', v, s, h, hb => ⟨h.1, h.2.below hb fun i u _ hu => KidIn.below hu hb⟩
theorem KidIn.form {d : Nat} {w : World} {v : Value} {s : Shp} (h : KidIn d w v s) : ∃ p c, v = .slice p s.n c := by
  cases d with
  | zero => exact h.elim
  | succ d => obtain ⟨p, c, e, _⟩ := h.2; exact ⟨p, c, e⟩
theorem KidIn.len {d : Nat} {w : World} {v : Value} {s : Shp} (h : KidIn d w v s) : s.n ≤ 1000 := by
  cases d with
  | zero => exact h.elim
  | succ d => obtain ⟨p, c, e, h1, _⟩ := h.2; exact h1.1
theorem KidIn.kidAt {d : Nat} {w : World} {p : Option Addr} {n c : Nat} {s : Shp} (h : KidIn (d + 1) w (.slice p n c) s) {i : Nat} (hi : i < s.n) :
    ∃ b off q c', p = some ⟨b, off, none⟩ ∧ w.cell? ⟨b, off + i * 3, none⟩ = some (.int .u8 (s.kid i).k) ∧ w.cell? ⟨b, off + i * 3 + 1, none⟩ = some (.string (mkS (s.kid i).nm)) ∧ w.cell? ⟨b, off + i * 3 + 2, none⟩ = some (.slice q (s.kid i).n c') ∧ KidIn d w (.slice q (s.kid i).n c') (s.kid i) := by
  obtain ⟨p', c', he, hl, h0⟩ := h.2
  simp only [Value.slice.injEq] at he
  obtain ⟨rfl, rfl, rfl⟩ := he
  rcases h0 with h0 | ⟨b, off, rfl, hc⟩
  · omega
  · obtain ⟨q, c, h1, h2, h3, h4⟩ := hc i hi
    exact ⟨b, off, q, c, rfl, h1, h2, h3, h4⟩

/-- Whether a shape has more levels than some. -/
def deepF : Nat → Shp → Bool
  | 0, _ => true
  | l + 1, s => (List.range s.n).any fun i => deepF l (s.kid i)

set_option maxRecDepth 100000 in
set_option maxHeartbeats 2000000 in
theorem indexShp_any (d : Nat) (v : Value) (s : Shp) (g : Nat) (lb : Array Value) (p : Nat → Bool) (w : World) (hv : KidIn (d + 1) w v s) (eg : ∀ args w, (callFunc g args).run Tryd.prog w = .ok (.enter g args) w)
    (hp : ∀ i W u, i < s.n → Below w.heap.size w W → KidIn d W u (s.kid i) → Calls Tryd.prog g (#[shpV (s.kid i) u] ++ lb) W fun e W' => e = .returned (.bool (p i)) ∧ Below W.heap.size W W') :
    Calls Tryd.prog 118 #[v, .func (.func g) #[] lb] w fun e w' => ∃ r : Int, e = .returned (.int .i64 r) ∧ decide (0 ≤ r) = (List.range s.n).any p ∧ Below w.heap.size w w' := by
  have hl := hv.len
  obtain ⟨q, cap, rfl⟩ := hv.form
  have HV := Lib.hid hv; have HP := Lib.hid hp
  obtain ⟨n, hn⟩ : ∃ n, n = s.n := ⟨_, rfl⟩
  rw [← hn] at hl HV HP ⊢
  have HN := Lib.hid hn
  clear hv hp hn
  go_enter Tryd.func118, Tryd.ntmps118
  go_wp2
  go_loopw [8] (fun i wr => ∃ k : Nat, k ≤ n ∧ i = .int .i64 k ∧ Hid ((List.range k).any p = false) ∧ Hid (Below w.heap.size w wr)) (fun i _ => n - (intOf i).toNat)
  case atStart => exact ⟨0, Nat.zero_le _, rfl, rfl, Below.refl _ _⟩
  case round =>
    obtain ⟨k, hk, rfl, hr, hb⟩ := hrel
    by_cases hlt : k < n
    · obtain ⟨b, off, q', c', rfl, h1, h2, h3, h4⟩ := (HV.out.below hb.out).kidAt (i := k) (by have := HN.out; omega)
      have C := Lib.hid (HP.out k wr _ hlt hb.out h4)
      unfold shpV at C
      clear h4
      cases hpk : p k with
      | true =>
        have HS : Hid ((List.range n).any p = true) := by show _ = _; rw [List.any_eq_true]; exact ⟨k, List.mem_range.2 hlt, hpk⟩
        rw [hpk] at C
        clear hpk hr
        go_wp2_with fail
        refine C.out.mono ?_
        rintro e w1 ⟨rfl, hb1⟩
        have HB1 := Lib.hid (hb.out.trans (hb1.mono hb.out.size))
        clear hb1
        go_wp2
        go_ret
        exact ⟨k, rfl, by rw [HS.out]; exact decide_eq_true (by omega), HB1.out⟩
      | false =>
        have HS : Hid ((List.range (k + 1)).any p = false) := by show _ = _; rw [List.range_succ, List.any_append, hr.out]; simp [hpk]
        rw [hpk] at C
        clear hpk hr
        go_wp2_with fail
        refine C.out.mono ?_
        rintro e w1 ⟨rfl, hb1⟩
        have HB1 := Lib.hid (hb.out.trans (hb1.mono hb.out.size))
        clear hb1
        go_wp2
        go_roundw
        case rel => exact ⟨k + 1, by omega, by go_num, HS, HB1⟩
        case measure => simp [intOf]; omega
    · have HS : Hid ((List.range n).any p = false) := by show _ = _; rw [show n = k by omega]; exact hr.out
      clear hr
      go_wp2
      go_ret
      exact ⟨-1, rfl, by rw [HS.out]; rfl, hb.out⟩

set_option maxRecDepth 100000 in
set_option maxHeartbeats 2000000 in
theorem containsShp_any (d : Nat) (v : Value) (s : Shp) (g : Nat) (lb : Array Value) (p : Nat → Bool) (w : World) (hv : KidIn (d + 1) w v s) (eg : ∀ args w, (callFunc g args).run Tryd.prog w = .ok (.enter g args) w)
    (hp : ∀ i W u, i < s.n → Below w.heap.size w W → KidIn d W u (s.kid i) → Calls Tryd.prog g (#[shpV (s.kid i) u] ++ lb) W fun e W' => e = .returned (.bool (p i)) ∧ Below W.heap.size W W') :
    Calls Tryd.prog 83 #[v, .func (.func g) #[] lb] w fun e w' => e = .returned (.bool ((List.range s.n).any p)) ∧ Below w.heap.size w w' := by
  have C := Lib.hid (indexShp_any d v s g lb p w hv eg hp)
  obtain ⟨q, cap, rfl⟩ := hv.form
  obtain ⟨r, hr⟩ : ∃ r, r = (List.range s.n).any p := ⟨_, rfl⟩
  rw [← hr] at C ⊢
  clear hv hp hr
  go_enter Tryd.func83, Tryd.ntmps83
  go_wp2_with fail
  refine C.out.mono ?_
  rintro e w1 ⟨i, rfl, hd, hb⟩
  have HB := Lib.hid hb; have HD := Lib.hid hd
  clear hb hd
  go_wp2
  go_ret
  exact ⟨ret_bool HD.out, HB.out⟩

set_option maxRecDepth 100000 in
set_option maxHeartbeats 2000000 in
theorem deeper_any : ∀ (l d : Nat) (s : Shp) (v : Value) (w : World), l ≤ 1000 → KidIn d w v s →
    Calls Tryd.prog 47 #[shpV s v, .int .i64 l] w fun e w' => e = .returned (.bool (deepF l s)) ∧ Below w.heap.size w w' := by
  intro l
  induction l with
  | zero =>
    intro d s v w _ hv
    obtain ⟨q, cap, rfl⟩ := hv.form
    clear hv
    unfold shpV
    go_enter Tryd.func47, Tryd.ntmps47
    go_wp2
    go_ret
    exact ⟨rfl, ((Below.refl _ _).alloc (Nat.le_refl _) _).alloc (by simp) _⟩
  | succ l ih =>
    intro d s v w hl hv
    cases d with
    | zero => exact hv.elim
    | succ d =>
    have IH := Lib.hid ih
    have C1 : Hid (∀ (u : Value) (i : Nat) (W : World) (B : Nat), W.cell? ⟨B, 0, none⟩ = some (.int .i64 ((l + 1 : Nat) : Int)) → KidIn d W u (s.kid i) → Calls Tryd.prog 84 #[shpV (s.kid i) u, .pointer (some ⟨B, 0, none⟩)] W fun e W' => e = .returned (.bool (deepF l (s.kid i))) ∧ Below W.heap.size W W') := fun u i W B hB hu => by
      have hwr : ∀ W2, Below W.heap.size W W2 → Calls Tryd.prog 47 #[shpV (s.kid i) u, .int .i64 l] W2 fun e w' => e = .returned (.bool (deepF l (s.kid i))) ∧ Below W2.heap.size W2 w' := fun W2 h2 => IH.out d (s.kid i) u W2 (by omega) (hu.below h2)
      have HWR := Lib.hid hwr
      have lB : B < W.heap.size := cell_lt hB
      obtain ⟨q, cap, rfl⟩ := hu.form
      clear hwr hu
      unfold shpV at HWR ⊢
      go_enter Tryd.func84, Tryd.ntmps84
      go_wp2_with fail
      refine (HWR.out _ ((Below.refl _ _).alloc (Nat.le_refl _) _)).mono ?_
      rintro e w1 ⟨rfl, hb⟩
      have HB := Lib.hid (((Below.refl W.heap.size W).alloc (Nat.le_refl _) _).trans (hb.mono (by simp)))
      clear hb
      go_wp2
      go_ret
      exact ⟨rfl, HB.out⟩
    obtain ⟨W2, hW2⟩ : ∃ W2, W2 = (w.alloc (.cells #[.int .u8 s.k, .string (mkS s.nm), v] 42)).alloc (.cells #[.int .i64 ((l : Int) + 1)] 3) := ⟨_, rfl⟩
    have b2 : Below w.heap.size w W2 := by rw [hW2]; exact ((Below.refl _ _).alloc (Nat.le_refl _) _).alloc (by simp) _
    have c2 : W2.cell? ⟨w.heap.size + 1, 0, none⟩ = some (.int .i64 ((l + 1 : Nat) : Int)) := by rw [hW2]; simp [go_sem]
    have C := Lib.hid (containsShp_any d v s 84 #[.pointer (some ⟨w.heap.size + 1, 0, none⟩)] (fun i => deepF l (s.kid i)) W2 (hv.below b2) (enters_of Tryd.func84 (by kernel_rfl) rfl)
      (fun i W u hi hb hu => C1.out u i W (w.heap.size + 1) ((hb.cell (cell_lt c2)).trans c2) hu))
    obtain ⟨q, cap, rfl⟩ := hv.form
    have HW2 := Lib.hid hW2; have HB2 := Lib.hid b2
    have g0 : (((l : Int) + 1) == 0) = false := by rw [beq_eq_false_iff_ne]; omega
    clear hv ih C1 hW2 b2 c2
    unfold shpV
    go_enter Tryd.func47, Tryd.ntmps47
    go_wp2_with fail
    rw [← HW2.out]
    refine C.out.mono ?_
    rintro e w1 ⟨rfl, hb⟩
    have HB := Lib.hid (HB2.out.trans (hb.mono HB2.out.size))
    clear hb
    go_wp2
    go_ret
    exact ⟨rfl, HB.out⟩
end Go.Proofs.YtfhnigpjmljhbaaDoor.Or

/- The contracts of every at shapes, of kidCount, of formedShape. -/
set_option linter.unusedVariables false
set_option linter.unusedSimpArgs false
namespace Go.Proofs.YtfhnigpjmljhbaaDoor.Or
open Go.RowKit

set_option maxRecDepth 100000 in
set_option maxHeartbeats 2000000 in
theorem everyShp_any (d : Nat) (v : Value) (s : Shp) (g : Nat) (lb : Array Value) (p : Nat → Bool) (w : World) (hv : KidIn (d + 1) w v s) (eg : ∀ args w, (callFunc g args).run Tryd.prog w = .ok (.enter g args) w)
    (hp : ∀ i W u, i < s.n → Below w.heap.size w W → KidIn d W u (s.kid i) → Calls Tryd.prog g (#[shpV (s.kid i) u] ++ lb) W fun e W' => e = .returned (.bool (p i)) ∧ Below W.heap.size W W') :
    Calls Tryd.prog 92 #[v, .func (.func g) #[] lb] w fun e w' => e = .returned (.bool ((List.range s.n).all p)) ∧ Below w.heap.size w w' := by
  have hl := hv.len
  obtain ⟨q, cap, rfl⟩ := hv.form
  have HV := Lib.hid hv; have HP := Lib.hid hp
  obtain ⟨n, hn⟩ : ∃ n, n = s.n := ⟨_, rfl⟩
  rw [← hn] at hl HV HP ⊢
  have HN := Lib.hid hn
  clear hv hp hn
  go_enter Tryd.func92, Tryd.ntmps92
  go_wp2
  go_loopw [9] (fun i wr => ∃ k : Nat, k ≤ n ∧ i = .int .i64 k ∧ Hid ((List.range k).all p = true) ∧ Hid (Below w.heap.size w wr)) (fun i _ => n - (intOf i).toNat)
  case atStart => exact ⟨0, Nat.zero_le _, rfl, rfl, Below.refl _ _⟩
  case round =>
    obtain ⟨k, hk, rfl, hr, hb⟩ := hrel
    by_cases hlt : k < n
    · obtain ⟨b, off, q', c', rfl, h1, h2, h3, h4⟩ := (HV.out.below hb.out).kidAt (i := k) (by have := HN.out; omega)
      have lb1 : b < wr.heap.size := cell_lt h1
      have C := Lib.hid (HP.out k (wr.alloc (.cells #[.int .u8 (s.kid k).k, .string (mkS (s.kid k).nm), .slice q' (s.kid k).n c'] 42)) _ hlt (hb.out.alloc hb.out.size _) (h4.below ((Below.refl _ _).alloc (Nat.le_refl _) _)))
      unfold shpV at C
      clear h4
      cases hpk : p k with
      | false =>
        have HS : Hid ((List.range n).all p = false) := by
          show _ = _
          refine (Bool.not_eq_true _).mp fun h => ?_
          rw [List.all_eq_true] at h
          have := h k (List.mem_range.2 hlt)
          rw [hpk] at this; cases this
        rw [hpk] at C
        clear hpk hr
        go_wp2_with fail
        refine C.out.mono ?_
        rintro e w1 ⟨rfl, hb1⟩
        have HB1 := Lib.hid ((hb.out.alloc hb.out.size _).trans (hb1.mono (by have := hb.out.size; simp; omega)))
        clear hb1
        go_wp2
        go_ret
        exact ⟨ret_bool HS.out.symm, HB1.out⟩
      | true =>
        have HS : Hid ((List.range (k + 1)).all p = true) := by show _ = _; rw [List.range_succ, List.all_append, hr.out]; simp [hpk]
        rw [hpk] at C
        clear hpk hr
        go_wp2_with fail
        refine C.out.mono ?_
        rintro e w1 ⟨rfl, hb1⟩
        have HB1 := Lib.hid ((hb.out.alloc hb.out.size _).trans (hb1.mono (by have := hb.out.size; simp; omega)))
        clear hb1
        go_wp2
        go_roundw
        case rel => exact ⟨k + 1, by omega, by go_num, HS, HB1⟩
        case measure => simp [intOf]; omega
    · have HS : Hid ((List.range n).all p = true) := by show _ = _; rw [show n = k by omega]; exact hr.out
      clear hr
      go_wp2
      go_ret
      exact ⟨ret_bool HS.out.symm, hb.out⟩

/-- How many kids a shape of a kind has. -/
def kidN (k : Nat) : Nat := if k = 6 then 1 else if k = 7 then 2 else 0
set_option maxRecDepth 100000 in
set_option maxHeartbeats 2000000 in
theorem kidCount_any (k : Nat) (w : World) (hk : k < 256) :
    Calls Tryd.prog 91 #[.int .u8 k] w fun e w' => e = .returned (.int .i64 (kidN k)) ∧ w' = w := by
  by_cases h6 : k = 6
  · subst h6
    go_enter Tryd.func91, Tryd.ntmps91
    go_wp2
    go_ret
    exact ⟨rfl, rfl⟩
  · by_cases h7 : k = 7
    · subst h7
      go_enter Tryd.func91, Tryd.ntmps91
      go_wp2
      go_ret
      exact ⟨rfl, rfl⟩
    · have g6 : ((k : Int) == 6) = false := by rw [beq_eq_false_iff_ne]; omega
      have g7 : ((k : Int) == 7) = false := by rw [beq_eq_false_iff_ne]; omega
      have HF : Hid (kidN k = 0) := by show _ = _; unfold kidN; rw [if_neg h6, if_neg h7]
      clear h6 h7
      go_enter Tryd.func91, Tryd.ntmps91
      go_wp2
      go_ret
      exact ⟨ret_int (by rw [HF.out]; rfl), rfl⟩

/-- Whether a shape has its form. -/
def formF : Nat → Shp → Bool
  | 0, _ => false
  | d + 1, s => decide (1 ≤ s.k) && decide (s.k ≤ 7) && decide (s.n = kidN s.k) && (if s.k = 5 then tnameF s.nm else decide (s.nm = []) && (List.range s.n).all fun i => formF d (s.kid i))

set_option maxRecDepth 100000 in
set_option maxHeartbeats 4000000 in
theorem formedShape_any : ∀ (d : Nat) (s : Shp) (v : Value) (w : World), KidIn d w v s → LaidOk w →
    Calls Tryd.prog 50 #[shpV s v] w fun e w' => e = .returned (.bool (formF d s)) ∧ Below w.heap.size w w' := by
  intro d
  induction d with
  | zero => intro s v w hv; exact hv.elim
  | succ d ih =>
    intro s v w hv hL
    have hk := hv.1.1; have hnm := hv.1.2
    obtain ⟨W2, hW2⟩ : ∃ W2, W2 = w.alloc (.cells #[.int .u8 s.k, .string (mkS s.nm), v] 42) := ⟨_, rfl⟩
    have b2 : Below w.heap.size w W2 := by rw [hW2]; exact (Below.refl _ _).alloc (Nat.le_refl _) _
    have c0 : W2.cell? ⟨w.heap.size, 0, none⟩ = some (.int .u8 s.k) := by rw [hW2]; simp [go_sem]
    have c1 : W2.cell? ⟨w.heap.size, 1, none⟩ = some (.string (mkS s.nm)) := by rw [hW2]; simp [go_sem]
    have c2 : W2.cell? ⟨w.heap.size, 2, none⟩ = some v := by rw [hW2]; simp [go_sem]
    have CK : Hid (∀ W, Calls Tryd.prog 91 #[.int .u8 s.k] W fun e w' => e = .returned (.int .i64 (kidN s.k)) ∧ w' = W) := fun W => kidCount_any s.k W hk
    have CN : Hid (∀ W, Below w.heap.size w W → Calls Tryd.prog 85 #[.string (mkS s.nm)] W fun e w' => e = .returned (.bool (tnameF s.nm)) ∧ Below W.heap.size W w') := fun W h => namesTable_any s.nm W (by omega) (hL.below h)
    have CE : Hid (∀ W, Below w.heap.size w W → Calls Tryd.prog 92 #[v, .func (.func 50) #[] #[]] W fun e w' => e = .returned (.bool ((List.range s.n).all fun i => formF d (s.kid i))) ∧ Below W.heap.size W w') := fun W h =>
      everyShp_any d v s 50 #[] (fun i => formF d (s.kid i)) W (hv.below h) (enters_of Tryd.func50 (by kernel_rfl) rfl) (fun i U u hi hb hu => ih (s.kid i) u U hu (hL.below (h.trans (hb.mono h.size))))
    have HF : Hid (formF (d + 1) s = (decide (1 ≤ s.k) && decide (s.k ≤ 7) && decide (s.n = kidN s.k) && (if s.k = 5 then tnameF s.nm else decide (s.nm = []) && (List.range s.n).all fun i => formF d (s.kid i)))) := rfl
    obtain ⟨AL, hAL⟩ : ∃ AL, AL = (List.range s.n).all fun i => formF d (s.kid i) := ⟨_, rfl⟩
    rw [← hAL] at CE HF
    obtain ⟨q, cap, rfl⟩ := hv.form
    have hl := hv.len
    obtain ⟨k, hkk⟩ : ∃ k, k = s.k := ⟨_, rfl⟩
    obtain ⟨nm, hnn⟩ : ∃ nm, nm = s.nm := ⟨_, rfl⟩
    obtain ⟨n, hn⟩ : ∃ n, n = s.n := ⟨_, rfl⟩
    obtain ⟨F, hFF⟩ : ∃ F, F = formF (d + 1) s := ⟨_, rfl⟩
    rw [← hkk, ← hnn, ← hn, ← hFF] at HF
    rw [← hkk, ← hnn, ← hn] at hW2
    rw [← hkk] at CK c0 hk
    rw [← hnn] at CN c1 hnm
    rw [← hn] at CE c2 hl
    unfold shpV
    rw [← hkk, ← hnn, ← hn, ← hFF]
    have HW2 := Lib.hid hW2; have HB2 := Lib.hid b2
    have HN := Lib.hid hnm
    clear hv hL ih hAL hkk hnn hn hFF hW2 b2 hnm
    by_cases a1 : 1 ≤ k
    · have g1 : decide ((k : Int) < 1) = false := decide_eq_false (by omega)
      by_cases a2 : k ≤ 7
      · have g2 : decide ((7 : Int) < k) = false := decide_eq_false (by omega)
        by_cases a3 : n = kidN k
        · have g3 : ((n : Int) != (kidN k : Int)) = false := by rw [bne_eq_false_iff_eq]; omega
          by_cases a5 : k = 5
          · have g5 : ((k : Int) == 5) = true := by rw [beq_iff_eq]; omega
            have HR : Hid (F = tnameF nm) := by show _ = _; rw [HF.out, decide_eq_true a1, decide_eq_true a2, decide_eq_true a3, if_pos a5]; rfl
            clear a1 a2 a3 a5 HF CE
            go_enter Tryd.func50, Tryd.ntmps50
            go_wp2_with fail
            go_quiet ((go_at_call 91; exact Calls.quiet_of_same (CK.out _)))
            go_wp2_with fail
            refine (CN.out _ (show Below w.heap.size w _ from ((Below.refl _ _).alloc (Nat.le_refl _) _).trans (below_drewAt _ _ _))).mono ?_
            rintro e w1 ⟨rfl, hb⟩
            have HB := Lib.hid ((show Below w.heap.size w _ from ((Below.refl _ _).alloc (Nat.le_refl _) _).trans (below_drewAt _ _ _)).trans (hb.mono (by simp)))
            clear hb
            go_wp2
            go_ret
            exact ⟨ret_bool HR.out.symm, HB.out⟩
          · have g5 : ((k : Int) == 5) = false := by rw [beq_eq_false_iff_ne]; omega
            by_cases a6 : nm = []
            · have HR : Hid (F = AL) := by show _ = _; rw [HF.out, decide_eq_true a1, decide_eq_true a2, decide_eq_true a3, if_neg a5, decide_eq_true a6]; rfl
              have g6 : (mkS nm).toList.isEmpty = true := by rw [mkS_toList, a6]; rfl
              clear a1 a2 a3 a5 a6 HF CN
              go_enter Tryd.func50, Tryd.ntmps50
              go_wp2_with fail
              go_quiet ((go_at_call 91; exact Calls.quiet_of_same (CK.out _)))
              go_wp2_with fail
              refine (CE.out _ (show Below w.heap.size w _ from ((Below.refl _ _).alloc (Nat.le_refl _) _).trans (below_drewAt _ _ _))).mono ?_
              rintro e w1 ⟨rfl, hb⟩
              have HB := Lib.hid ((show Below w.heap.size w _ from ((Below.refl _ _).alloc (Nat.le_refl _) _).trans (below_drewAt _ _ _)).trans (hb.mono (by simp)))
              clear hb
              go_wp2
              go_ret
              exact ⟨ret_bool HR.out.symm, HB.out⟩
            · have HR : Hid (F = false) := by show _ = _; rw [HF.out, if_neg a5, decide_eq_false a6]; simp
              have g6 : (mkS nm).toList.isEmpty = false := by
                rw [mkS_toList]; cases nm with
                | nil => exact (a6 rfl).elim
                | cons a r => rfl
              clear a1 a2 a3 a5 a6 HF CN CE
              go_enter Tryd.func50, Tryd.ntmps50
              go_wp2_with fail
              go_quiet ((go_at_call 91; exact Calls.quiet_of_same (CK.out _)))
              go_wp2
              go_ret
              exact ⟨ret_bool HR.out.symm, (show Below w.heap.size w _ from ((Below.refl _ _).alloc (Nat.le_refl _) _).trans (below_drewAt _ _ _))⟩
        · have g3 : ((n : Int) != (kidN k : Int)) = true := by rw [bne_iff_ne]; omega
          have HR : Hid (F = false) := by show _ = _; rw [HF.out, decide_eq_false a3]; simp
          clear a1 a2 a3 HF CN CE
          go_enter Tryd.func50, Tryd.ntmps50
          go_wp2_with fail
          go_quiet ((go_at_call 91; exact Calls.quiet_of_same (CK.out _)))
          go_wp2
          go_ret
          exact ⟨ret_bool HR.out.symm, (show Below w.heap.size w _ from ((Below.refl _ _).alloc (Nat.le_refl _) _).trans (below_drewAt _ _ _))⟩
      · have g2 : decide ((7 : Int) < k) = true := decide_eq_true (by omega)
        have HR : Hid (F = false) := by show _ = _; rw [HF.out, decide_eq_false a2]; simp
        clear a1 a2 HF CN CE
        go_enter Tryd.func50, Tryd.ntmps50
        go_wp2_with fail
        go_quiet ((go_at_call 91; exact Calls.quiet_of_same (CK.out _)))
        go_wp2
        go_ret
        exact ⟨ret_bool HR.out.symm, (show Below w.heap.size w _ from ((Below.refl _ _).alloc (Nat.le_refl _) _).trans (below_drewAt _ _ _))⟩
    · have g1 : decide ((k : Int) < 1) = true := decide_eq_true (by omega)
      have HR : Hid (F = false) := by show _ = _; rw [HF.out, decide_eq_false a1]; simp
      clear a1 HF CN CE
      go_enter Tryd.func50, Tryd.ntmps50
      go_wp2_with fail
      go_quiet ((go_at_call 91; exact Calls.quiet_of_same (CK.out _)))
      go_wp2
      go_ret
      exact ⟨ret_bool HR.out.symm, (show Below w.heap.size w _ from ((Below.refl _ _).alloc (Nat.le_refl _) _).trans (below_drewAt _ _ _))⟩
end Go.Proofs.YtfhnigpjmljhbaaDoor.Or
