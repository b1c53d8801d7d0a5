/- Contracts of word and sign: the tokens that a grammar reads. -/
import Derived.Test.YtlhbfgkcalalkaaDoorWf
import Derived.Test.YtlhbfgkcalalkaaDoorShelf
import Derived.Lib.IndexBytes
set_option linter.unusedVariables false
namespace Go.Proofs.YtlhbfgkcalalkaaDoor
open Go.RowKit Go.WideMaps Go.Maps

theorem zeroBool (w : World) : (zeroValue 4).run Tryd.prog w = .ok (.bool false) w := by kernel_rfl

/-- A look-up, in a map of the call's own, of a bool. -/
theorem wpList_lookup_own_bool {P : Program} (w : World) {ops : Array Oper} {rest : List Oper} {o : Oper} {a : Act} {Q : Exit → Act → World → Prop}
    (hg : o.guard = none) (m x : Operand) (t : TypeId) (hop : o.op = Op.lookup t m x false)
    (k e : TypeId) (K : Keyed P k) (ht : P.underlying t = some (.map k e)) (he : P.underlying e = some .bool) (hz : (zeroValue e).run P w = .ok (.bool false) w) (b n : Nat) (D : DataW Unit)
    (hm : a.eval m = .map (some b)) (hown : w.ownsMap P k (plainElem P e) b n D) (key : Value) (kl : Lit) (hx : a.eval x = key) (hkey : keyOf P k key = some kl) (r : Bool) (hr : D.atKey kl (.lit (.bool false)) = .lit (.bool r))
    (hK : wpList P ops Q rest (a.put o.dst (.bool r)) w) : wpList P ops Q (o :: rest) a w := by
  refine wpList_plain hg fun K' hK' => ?_
  obtain ⟨v, ps, hrun, hv⟩ := hown.lookup K ht hz (plainElem_bool he false) hkey
  have hvr : v = .bool r := by
    rw [hr] at hv
    unfold plainElem at hv
    rw [he] at hv
    cases v <;> simp at hv
    rw [hv.1]
  subst hvr
  unfold Oper.wp
  simp [execOp, hop, hm, hx, hrun, Result.andThen]
  exact hK' _ _ hK

/-- The kind of a text of letters and digits that begins with a letter. -/
def wordK (l : List UInt8) : Option Nat := if isKey l then some 3 else if 12 < l.length then none else some 1
/-- What a token comes to as a value. -/
def tkK (k : Option Nat) : Nat := k.getD 0
def tkT (k : Option Nat) (t : ByteArray) : ByteArray := if k.isSome then t else ⟨#[]⟩
def tkA (k : Option Nat) (at_ : Int) : Int := if k.isSome then at_ else 0
def tokOut (k : Option Nat) (t : ByteArray) (at_ : Int) : Value := .tuple #[.agg #[.int .u8 (tkK k), .string (tkT k t), .int .i64 (tkA k at_)], .bool k.isSome]

set_option maxRecDepth 100000 in
set_option maxHeartbeats 800000 in
theorem word_any (g : Value) (s : ByteArray) (at_ : Int) (w : World) (hs : s.size ≤ maxLen) (hg : Gram w g) :
    Calls Tryd.prog 45 #[g, .string s, .int .i64 at_] w fun e w' => e = .returned (tokOut (wordK s.data.toList) s at_) ∧ Below w.heap.size w w' := by
  obtain ⟨mb, sb, rfl, hm, hsig⟩ := hg
  have hkey := keyOf_string_mk Tryd.underlying9 (s := s) hs
  have hml := hm.lt
  have HM := Lib.hid hm; have HK := Lib.hid hkey
  clear hsig hm hkey
  unfold maxLen at hs
  have hown : ∀ o o' : Obj, ((w.alloc o).alloc o').ownsMap Tryd.prog 9 (plainElem (H := Unit) Tryd.prog 4) mb 28 (keyD 28) := fun o o' => (HM.out.alloc o).alloc o'
  have HO := Lib.hid hown; clear hown
  by_cases h1 : isKey s.data.toList = true
  · have hk : Hid (wordK s.data.toList = some 3) := by show _ = _; unfold wordK; rw [if_pos h1]
    have H1 := Lib.hid h1; clear h1
    go_enter Tryd.func45, Tryd.ntmps45
    go_wp2_with (first
      | (at_lookup; refine wpList_lookup_own_bool _ rfl _ _ 49 rfl 9 4 klaw Tryd.underlying49 Tryd.underlying4 (zeroBool _) mb 28 (keyD 28) rfl (HO.out _ _) _ _ rfl HK.out true (by rw [keyD_at, H1.out]) ?_)
      | go_in)
    refine bodyPost_ret (v := .tuple #[.agg #[.int .u8 3, .string s, .int .i64 at_], .bool true]) (by simp [results, Tryd.results45, go_sem]) rfl ⟨by rw [hk.out]; rfl, ?_⟩
    exact ((Below.refl _ _).alloc (Nat.le_refl _) _).alloc (by simp) _
  · have H1 := Lib.hid h1; clear h1
    have hf : isKey s.data.toList = false := (Bool.not_eq_true _).mp H1.out
    have HF := Lib.hid hf; clear hf
    by_cases h2 : 12 < s.size
    · have hk : Hid (wordK s.data.toList = none) := by show _ = _; unfold wordK; rw [if_neg H1.out, if_pos (by simpa using h2)]
      go_enter Tryd.func45, Tryd.ntmps45
      go_wp2_with (first
        | (at_lookup; refine wpList_lookup_own_bool _ rfl _ _ 49 rfl 9 4 klaw Tryd.underlying49 Tryd.underlying4 (zeroBool _) mb 28 (keyD 28) rfl (HO.out _ _) _ _ rfl HK.out false (by rw [keyD_at, HF.out]) ?_)
        | go_in)
      refine bodyPost_ret (v := .tuple #[.agg #[.int .u8 0, .string ⟨#[]⟩, .int .i64 0], .bool false]) (by simp [results, Tryd.results45, go_sem]) rfl ⟨by rw [hk.out]; rfl, ?_⟩
      exact ((Below.refl _ _).alloc (Nat.le_refl _) _).alloc (by simp) _
    · have hk : Hid (wordK s.data.toList = some 1) := by show _ = _; unfold wordK; rw [if_neg H1.out, if_neg (by simpa using h2)]
      go_enter Tryd.func45, Tryd.ntmps45
      go_wp2_with (first
        | (at_lookup; refine wpList_lookup_own_bool _ rfl _ _ 49 rfl 9 4 klaw Tryd.underlying49 Tryd.underlying4 (zeroBool _) mb 28 (keyD 28) rfl (HO.out _ _) _ _ rfl HK.out false (by rw [keyD_at, HF.out]) ?_)
        | go_in)
      refine bodyPost_ret (v := .tuple #[.agg #[.int .u8 1, .string s, .int .i64 at_], .bool true]) (by simp [results, Tryd.results45, go_sem]) rfl ⟨by rw [hk.out]; rfl, ?_⟩
      exact ((Below.refl _ _).alloc (Nat.le_refl _) _).alloc (by simp) _

/-- The sign that a text begins with. -/
def signAt (l : List UInt8) : Option (List UInt8) := signsL.find? (fun p => Lib.hasPrefix l p)
def signOut (o : Option (List UInt8)) (at_ : Int) : Value := match o with | some t => tokOut (some 4) (mkS t) at_ | none => tokOut none ⟨#[]⟩ 0

set_option maxRecDepth 100000 in
set_option maxHeartbeats 800000 in
theorem sign_any (g : Value) (s : ByteArray) (at_ : Nat) (w : World) (hs : s.size ≤ maxLen) (ha : at_ ≤ s.size) (hg : Gram w g) :
    Calls Tryd.prog 47 #[g, .string s, .int .i64 at_] w fun e w' => e = .returned (signOut (signAt (s.data.toList.drop at_)) at_) ∧ Below w.heap.size w w' := by
  obtain ⟨mb, sb, rfl, hm, hsig⟩ := hg
  clear hm
  have HS := Lib.hid hsig; clear hsig
  unfold maxLen at hs
  go_enter Tryd.func47, Tryd.ntmps47
  go_wp2
  go_loop [13] (fun i => ∃ k : Nat, k ≤ 22 ∧ i = .int .i64 k ∧ Hid (∀ j, j < k → Lib.hasPrefix (s.data.toList.drop at_) (signsL.getD j []) = false)) (fun i => 22 - (intOf i).toNat)
  case atStart => exact ⟨0, by omega, rfl, fun j hj => by omega⟩
  case round =>
    obtain ⟨k, hk, rfl, hpre⟩ := hrel
    by_cases hlt : k < 22
    · obtain ⟨x, hx, hcell0⟩ : ∃ x, signsL.getD k [] = x ∧ w.cell? ⟨sb, k, none⟩ = some (.string (mkS x)) := ⟨_, rfl, HS.out k hlt⟩
      have hsb := cell_lt hcell0
      have hcell : ∀ o o', ((w.alloc o).alloc o').cell? ⟨sb, k, none⟩ = some (.string (mkS x)) := fun o o' => by
        rw [World.cell?_alloc_lt _ _ _ (by show sb < (w.alloc o).heap.size; simp; exact Nat.lt_succ_of_lt hsb), World.cell?_alloc_lt _ _ _ hsb]; exact hcell0
      have HX := Lib.hid hx; clear hx hcell0
      by_cases hp : Lib.hasPrefix (s.data.toList.drop at_) x = true
      · have hf : Hid (signAt (s.data.toList.drop at_) = some x) := by
          show _ = _; unfold signAt
          rw [List.find?_eq_some_iff_getElem]
          refine ⟨hp, k, hlt, by rw [← HX.out, List.getD_eq_getElem?_getD, List.getElem?_eq_getElem (by exact hlt)]; rfl, fun j hj => ?_⟩
          have := hpre.out j hj
          rw [List.getD_eq_getElem?_getD, List.getElem?_eq_getElem (by exact Nat.lt_trans hj hlt)] at this
          simpa using this
        have C : Hid (∀ W, Calls Tryd.prog 57 #[.string (s.extract at_ s.size), .string (mkS x)] W fun e w' => e = .returned (.bool true) ∧ W = w') := fun W => (Tryd.strings_HasPrefix _ _ W).mono (by rintro e w' ⟨rfl, rfl⟩; exact ⟨ret_bool (by rw [Lib.extract_to_end, mkS_list]; exact hp), rfl⟩)
        clear hp
        go_wp2_with (go_at_call 57; refine (C.out _).mono ?_; rintro e w' ⟨rfl, rfl⟩)
        refine bodyPost_ret (v := .tuple #[.agg #[.int .u8 4, .string (mkS x), .int .i64 at_], .bool true]) (by simp [results, Tryd.results47, go_sem]) rfl ⟨by rw [hf.out]; rfl, ?_⟩
        exact ((Below.refl _ _).alloc (Nat.le_refl _) _).alloc (by simp) _
      · have hpf : Lib.hasPrefix (s.data.toList.drop at_) x = false := (Bool.not_eq_true _).mp hp
        have C : Hid (∀ W, Calls Tryd.prog 57 #[.string (s.extract at_ s.size), .string (mkS x)] W fun e w' => e = .returned (.bool false) ∧ W = w') := fun W => (Tryd.strings_HasPrefix _ _ W).mono (by rintro e w' ⟨rfl, rfl⟩; exact ⟨ret_bool (by rw [Lib.extract_to_end, mkS_list]; exact hpf), rfl⟩)
        have H' : Hid (∀ j, j < k + 1 → Lib.hasPrefix (s.data.toList.drop at_) (signsL.getD j []) = false) := fun j hj => by
          by_cases e : j = k
          · subst e; rw [HX.out]; exact hpf
          · exact hpre.out j (by omega)
        clear hp hpf
        go_wp2_with (go_at_call 57; refine (C.out _).mono ?_; rintro e w' ⟨rfl, rfl⟩)
        go_round
        case rel => exact ⟨k + 1, by omega, by go_num, H'⟩
        case measure => simp [intOf]; omega
    · have hf : Hid (signAt (s.data.toList.drop at_) = none) := by
        show _ = _; unfold signAt
        rw [List.find?_eq_none]
        intro x hx
        obtain ⟨j, hj, e⟩ := List.mem_iff_getElem.1 hx
        have := hpre.out j (by have : signsL.length = 22 := rfl
                               omega)
        rw [List.getD_eq_getElem?_getD, List.getElem?_eq_getElem hj] at this
        subst e
        simpa using this
      go_wp2
      refine bodyPost_ret (v := .tuple #[.agg #[.int .u8 0, .string ⟨#[]⟩, .int .i64 0], .bool false]) (by simp [results, Tryd.results47, go_sem]) rfl ⟨by rw [hf.out]; rfl, ?_⟩
      exact ((Below.refl _ _).alloc (Nat.le_refl _) _).alloc (by simp) _
end Go.Proofs.YtlhbfgkcalalkaaDoor
