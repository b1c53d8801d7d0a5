/- A walked table in memory; the contract of above. -/
import Derived.Test.YtgbjelglifihnaaDoorOrR
set_option linter.unusedVariables false
set_option linter.unusedSimpArgs false
namespace Go.Proofs.YtgbjelglifihnaaDoor.Or
open Go.RowKit

/-- A walked table in memory. -/
structure WalkedAt (w : World) (b : Nat) (t : Tab) : Prop where
  frm : frmF t = true
  cells : ∃ ve va vw, w.cell? ⟨b, 0, none⟩ = some (.string (mkS t.name)) ∧ w.cell? ⟨b, 1, none⟩ = some ve ∧ w.cell? ⟨b, 2, none⟩ = some va ∧ w.cell? ⟨b, 3, none⟩ = some vw ∧ TabIn w ve va vw t
  rows : ∀ a, a < t.n → w.cell? ⟨b, 4 + a, none⟩ = some (.int .u16 (grp (t.R a) t.n : Nat))
theorem WalkedAt.below {w w' : World} {b : Nat} {t : Tab} (h : WalkedAt w b t) (hb : Below w.heap.size w w') : WalkedAt w' b t := by
  obtain ⟨ve, va, vw, h0, h1, h2, h3, h4⟩ := h.cells
  exact ⟨h.frm, ⟨ve, va, vw, (hb.cell (cell_lt h0)).trans h0, (hb.cell (cell_lt h1)).trans h1, (hb.cell (cell_lt h2)).trans h2, (hb.cell (cell_lt h3)).trans h3, h4.below hb⟩,
    fun a ha => (hb.cell (cell_lt (h.rows a ha))).trans (h.rows a ha)⟩
theorem WalkedAt.lt {w : World} {b : Nat} {t : Tab} (h : WalkedAt w b t) : b < w.heap.size := by
  obtain ⟨ve, va, vw, h0, _⟩ := h.cells; exact cell_lt h0
theorem WalkedAt.n12 {w : World} {b : Nat} {t : Tab} (h : WalkedAt w b t) : 1 ≤ t.n ∧ t.n ≤ 12 := by
  have := frm_len h.frm; unfold Tab.n; omega
theorem WalkedAt.elems {w : World} {b : Nat} {t : Tab} (h : WalkedAt w b t) : ∃ p c, w.cell? ⟨b, 1, none⟩ = some (.slice p t.n c) := by
  obtain ⟨ve, va, vw, h0, h1, h2, h3, h4⟩ := h.cells
  obtain ⟨p, c, rfl⟩ := h4.e.form
  exact ⟨p, c, h1⟩
theorem WalkedAt.wrong {w : World} {b : Nat} {t : Tab} (h : WalkedAt w b t) : ∃ p c, w.cell? ⟨b, 3, none⟩ = some (.slice p t.n c) ∧ RdB w (.slice p t.n c) t.wrong := by
  obtain ⟨ve, va, vw, h0, h1, h2, h3, h4⟩ := h.cells
  obtain ⟨p, c, rfl⟩ := h4.w.form
  have := (frm_len h.frm).2.2.2
  unfold Tab.n
  rw [← this]
  exact ⟨p, c, h3, h4.w⟩

theorem ix_row (b a : Nat) (h : a < 12) (W : World) : (Instr.indexAt 96 (.pointer (some ⟨b, 4, none⟩)) (.int .i64 (a : Int))).run Tryd.prog W = .ok (.pointer (some ⟨b, 4 + a, none⟩)) W := by
  have e1 : Tryd.prog.arrayLen 96 = 12 := by kernel_rfl
  have e2 : ∀ W, (sizeOf (Tryd.prog.elem 96)).run Tryd.prog W = .ok 1 W := fun W => by kernel_rfl
  refine (run_indexAt_array (P := Tryd.prog) (w := W) 96 ⟨b, 4, none⟩ .i64 (a : Int) (by kernel_rfl)).trans ?_
  rw [e1, if_pos ⟨by omega, by omega⟩, e2]
  simp [Result.andThen, Addr.add]
def ints (l : List Nat) : List Int := l.map fun (x : Nat) => (x : Int)
theorem ints_length (l : List Nat) : (ints l).length = l.length := by simp [ints]
theorem ints_get (l : List Nat) (k : Nat) (h : k < l.length) : (ints l).getD k 0 = ((l.getD k 0 : Nat) : Int) := by simp [ints, List.getD_eq_getElem?_getD, h]
/-- What is above all of some, as a group. -/
def upsG (t : Tab) (l : List Nat) : Nat := grp (fun c => l.all fun x => bel t.R x c) t.n
theorem ups_lt (t : Tab) (l : List Nat) (h : t.n ≤ 12) : upsG t l < 65536 := grp_lt16 _ (by omega)
theorem pow_lt16 {a : Nat} (h : a < 16) : 2 ^ a < 65536 := Nat.pow_lt_pow_right (a := 2) (m := a) (n := 16) (by decide) h

set_option maxRecDepth 100000 in
set_option maxHeartbeats 4000000 in
theorem above_any (b : Nat) (t : Tab) (v : Value) (l : List Nat) (w : World) (hW : WalkedAt w b t) (hv : RdI w v (ints l)) (hl : ∀ x ∈ l, x < t.n) :
    Calls Tryd.prog 65 #[.pointer (some ⟨b, 0, none⟩), v] w fun e w' => e = .returned (.int .u16 (upsG t l : Nat)) ∧ Below w.heap.size w w' := by
  obtain ⟨n1, n2⟩ := hW.n12
  obtain ⟨p, cap, rfl⟩ := hv.form
  obtain ⟨pe, ce, he⟩ := hW.elems
  have hln := hv.len
  rw [ints_length] at hln hv ⊢
  have HW := Lib.hid hW; have HV := Lib.hid hv; have HL := Lib.hid hl
  have C1 : Hid (∀ W, Calls Tryd.prog 116 #[.int .i64 t.n] W fun e w' => e = .returned (.int .u16 ((2 ^ t.n : Nat) : Int)) ∧ W = w') := fun W => one_any t.n W (by omega)
  have hfull : IntKind.u16.wrap (((2 ^ t.n : Nat) : Int) - 1) = ((upsG t [] : Nat) : Int) := by
    have h1 := pow_lt16 (a := t.n) (by omega)
    have h0 : 0 < 2 ^ t.n := Nat.pow_pos (by decide)
    have h2 : upsG t [] = 2 ^ t.n - 1 := by rw [grp_full]; rfl
    rw [h2, show (((2 ^ t.n : Nat) : Int) - 1) = ((2 ^ t.n - 1 : Nat) : Int) by omega]
    exact wrap16 _ (by omega)
  obtain ⟨pw, hpw⟩ : ∃ pw, pw = 2 ^ t.n := ⟨_, rfl⟩
  rw [← hpw] at C1 hfull
  obtain ⟨k0, hk0⟩ : ∃ k0, k0 = l.length := ⟨_, rfl⟩
  rw [← hk0] at HV hln ⊢
  have HK := Lib.hid hk0
  obtain ⟨u0, hu0⟩ : ∃ u0, u0 = upsG t [] := ⟨_, rfl⟩
  rw [← hu0] at hfull
  have HU := Lib.hid hu0
  clear hW hv hl hpw hk0 hu0
  go_enter Tryd.func65, Tryd.ntmps65
  go_wp2_with fail
  refine (C1.out _).mono ?_
  rintro e w' ⟨rfl, rfl⟩
  go_wp2
  go_loopw [5, 18] (fun o i wr => ∃ (k g : Nat), k ≤ k0 ∧ i = .int .i64 k ∧ o = .int .u16 g ∧ Hid (g = upsG t (l.take k)) ∧ Hid (Below w.heap.size w wr)) (fun _ i _ => k0 - (intOf i).toNat)
  case atStart => exact ⟨0, u0, Nat.zero_le _, rfl, rfl, by show _ = _; rw [HU.out]; simp, Below.refl _ _⟩
  case round =>
    obtain ⟨k, g, hk, rfl, rfl, hg, hb⟩ := hrel
    by_cases hlt : k < k0
    · have hkl : k < l.length := by have := HK.out; omega
      obtain ⟨bs, off, rfl, hc⟩ := (HV.out.below hb.out).cell (i := k) (by rw [ints_length]; exact hkl)
      obtain ⟨a, ha⟩ : ∃ a, a = l.getD k 0 := ⟨_, rfl⟩
      have hx : (ints l).getD k 0 = (a : Int) := by rw [ha]; exact ints_get l k hkl
      rw [hx] at hc
      have hat : a < t.n := HL.out a (by rw [ha]; simp [List.getD_eq_getElem?_getD, hkl])
      have hrow := (HW.out.below hb.out).rows a hat
      obtain ⟨r, hr⟩ : ∃ r, r = grp (t.R a) t.n := ⟨_, rfl⟩
      rw [← hr] at hrow
      have hrl : r < 65536 := by rw [hr]; exact grp_lt16 _ (by omega)
      have hgl : g < 65536 := by rw [hg.out]; exact ups_lt t _ n2
      have hpl := pow_lt16 (a := a) (by omega)
      have C2 : Hid (∀ W, Calls Tryd.prog 116 #[.int .i64 a] W fun e w' => e = .returned (.int .u16 ((2 ^ a : Nat) : Int)) ∧ W = w') := fun W => one_any a W (by omega)
      obtain ⟨s, hs⟩ : ∃ s, s = r ||| 2 ^ a := ⟨_, rfl⟩
      have e1 := bits16_or r (2 ^ a) hrl hpl
      rw [← hs] at e1
      have hsb : s = grp (bel t.R a) t.n := by rw [hs, hr]; exact row_bel t.R hat
      have hsl : s < 65536 := by rw [hsb]; exact grp_lt16 _ (by omega)
      have e2 := bits16_and g s hgl hsl
      obtain ⟨o2, ho2⟩ : ∃ o2, o2 = g &&& s := ⟨_, rfl⟩
      rw [← ho2] at e2
      have HO : Hid (o2 = upsG t (l.take (k + 1))) := by
        show _ = _
        rw [ho2, hg.out, hsb, List.take_succ_eq_append_getElem hkl, show l[k] = a by rw [ha]; simp [List.getD_eq_getElem?_getD, hkl]]
        exact row_all t.R t.n (l.take k) a
      obtain ⟨p2, hp2⟩ : ∃ p2, p2 = 2 ^ a := ⟨_, rfl⟩
      rw [← hp2] at C2 e1
      have hix := ix_row b a (by omega)
      clear hr hrl hgl hpl hs hsb hsl ho2 hp2 hx ha hg hat
      go_wp2
      go_quiet ((go_at_call 116; exact Calls.quiet_of_same ((C2.out _).mono fun _ _ h => ⟨h.1, h.2.symm⟩)))
      go_wp2
      go_roundw
      case rel => exact ⟨k + 1, o2, by omega, by go_num, rfl, HO, hb.out.trans (below_drewAt _ _ _)⟩
      case measure => simp [intOf]; omega
    · have HG : Hid (g = upsG t l) := by
        show _ = _
        rw [hg.out, List.take_of_length_le (by have := HK.out; omega)]
      clear hg
      go_wp2
      go_ret
      exact ⟨ret_int (by rw [HG.out]), hb.out⟩
end Go.Proofs.YtgbjelglifihnaaDoor.Or
