/- The reader of order: the numbers of names, by a map. -/
import Derived.Test.YtfhnigpjmljhbaaDoorOrPb
import Derived.Test.YtfhnigpjmljhbaaDoorOrRa
import Derived.Maps.OwnOps
import Derived.Maps.OwnSet
import Derived.Maps.Views
import Derived.StringKeys
set_option linter.unusedVariables false
set_option linter.unusedSimpArgs false
namespace Go.Proofs.YtfhnigpjmljhbaaDoor.Or
open Go.RowKit Go.Shelf Go.WideMaps Go.Maps

theorem klaw : Keyed Tryd.prog 9 := string_keyed Tryd.underlying9
theorem zeroInt (w : World) : (zeroValue 3).run Tryd.prog w = .ok (.int .i64 0) w := by kernel_rfl
theorem key_mk (l : List UInt8) (h : l.length ≤ 1000000) : keyOf Tryd.prog 9 (.string (mkS l)) = some (.string l) := by
  have := keyOf_string_mk Tryd.underlying9 (s := mkS l) (by rw [mkS_size]; unfold maxLen; omega)
  rwa [mkS_list] at this
/-- The numbers of the first names as a map; the last number of a name, and whether there is one. -/
def putN (l : List (List UInt8)) : Nat → DataW Unit
  | 0 => .map []
  | k + 1 => (putN l k).put (.string (l.getD k [])) (.lit (.int .i64 k))
def atN (l : List (List UInt8)) (x : List UInt8) : Nat → Nat × Bool
  | 0 => (0, false)
  | k + 1 => if l.getD k [] = x then (k, true) else atN l x k
theorem putN_map (l : List (List UInt8)) : ∀ k, IsMap (putN l k)
  | 0 => isMap_empty
  | k + 1 => (putN_map l k).put _ _
theorem putN_at (l : List (List UInt8)) (x : List UInt8) : ∀ k, (putN l k).atKey (.string x) (.lit (.int .i64 0)) = .lit (.int .i64 ((atN l x k).1 : Nat)) ∧ has (putN l k) (.string x) = (atN l x k).2
  | 0 => by simp [putN, atN, DataW.atKey, has]
  | k + 1 => by
    unfold putN atN
    by_cases e : l.getD k [] = x
    · subst e
      rw [if_pos rfl, atKey_put_same (putN_map l k) (by simp [WideAt.IsKeyLit]), has_put_same (putN_map l k) (by simp [WideAt.IsKeyLit])]
      exact ⟨rfl, rfl⟩
    · rw [if_neg e, atKey_put_other (by simpa using fun h => e h.symm), has_put_other (by simpa using fun h => e h.symm)]
      exact putN_at l x k
theorem atN_le (l : List (List UInt8)) (x : List UInt8) : ∀ k, (atN l x k).1 ≤ k
  | 0 => by simp [atN]
  | k + 1 => by
    have := atN_le l x k
    unfold atN
    split
    · show k ≤ k + 1; omega
    · omega
/-- A look-up of a number, with whether it is there, in a map that is known. -/
theorem wpList_lookup_num {P : Program} (w : World) {ops : Array Oper} {rest : List Oper} {o : Oper} {a : Act} {Q : Exit → Act → World → Prop}
    (hg : o.guard = none) (m x : Operand) (t : TypeId) (hop : o.op = Op.lookup t m x true)
    (k e : TypeId) (q : IntKind) (K : Keyed P k) (ht : P.underlying t = some (.map k e)) (he : P.underlying e = some (.int q)) (hz : (zeroValue e).run P w = .ok (.int q 0) w) (b n : Nat) (D : DataW Unit)
    (hm : a.eval m = .map (some b)) (hown : w.ownsMap P k (plainElem P e) b n D) (key : Value) (kl : Lit) (hx : a.eval x = key) (hkey : keyOf P k key = some kl) (c : Int) (r : Bool) (hc : D.atKey kl (.lit (.int q 0)) = .lit (.int q c)) (hr : has D kl = r)
    (hK : wpList P ops Q rest (a.put o.dst (.tuple #[.int q c, .bool r])) w) : wpList P ops Q (o :: rest) a w :=
  wpList_lookup_own_ok_int w hg m x t hop k e q K ht he hz b n D hm hown key kl hx hkey fun c' h1 _ => by
    rw [hc] at h1
    obtain rfl : c = c' := by simpa using h1
    rw [hr]
    exact hK
theorem ownsMap_at {w w' : World} {b n : Nat} {D : DataW Unit} {P : Program} {k : TypeId} {R : Value → Option (DataW Unit × List MemPlace)} (h : w.ownsMap P k R b n D) (hb : w'.heap[b]? = w.heap[b]?) : w'.ownsMap P k R b n D := by
  obtain ⟨es, c, h1, h2⟩ := h
  exact ⟨es, c, hb.trans h1, h2⟩
theorem map_ne {w : World} {b m n : Nat} {D : DataW Unit} {P : Program} {k : TypeId} {R : Value → Option (DataW Unit × List MemPlace)} {cs : Array Value} {T : TypeId} {fr : Nat × Nat} (h : w.ownsMap P k R m n D) (hb : w.heap[b]? = some (.cells cs T fr)) : m ≠ b := fun e => by
  obtain ⟨es, c, h1, _⟩ := h
  rw [e, hb] at h1; cases h1
theorem ownsRow_type {w w' : World} {base b n : Nat} {e T : TypeId} {v : Value} {xs : List Value} {cs : Array Value} {fr : Nat × Nat} (h : w.ownsRow base e 1 v n xs) (hb : w.heap[b]? = some (.cells cs T fr)) (hne : e ≠ T) (hd : Diff (fun k => k = b) w w') : w'.ownsRow base e 1 v n xs := by
  refine ⟨h.1, ?_⟩
  rcases h.2 with hn | ⟨g, cap, cur, rfl, hbg, hgg, rest⟩
  · exact .inl hn
  · refine .inr ⟨g, cap, cur, rfl, hbg, (hd.block g (heap_lt hgg) (fun e => ?_)).trans hgg, rest⟩
    have e' : g = b := e
    subst e'
    rw [hgg] at hb; injection hb with hb; injection hb with _ hb _; exact hne hb
/-- The numbers of names; whether one of them has none. -/
def numsF (E names : List (List UInt8)) : List Nat := names.map fun x => (atN E x E.length).1
def missF (E names : List (List UInt8)) : Bool := names.any fun x => !(atN E x E.length).2

set_option maxRecDepth 100000 in
set_option maxHeartbeats 4000000 in
theorem numbered_any (b mb : Nat) (rest : List UInt8) (lost : Bool) (E names : List (List UInt8)) (v : Value) (w : World) (hr : Rdr b rest lost w) (hv : w.ownsRow 0 9 1 v names.length (names.map strV)) (hn : names.length ≤ 900) (hE : E.length ≤ 900) (hx : ∀ x ∈ names, x.length ≤ 1000000)
    (hm : w.ownsMap Tryd.prog 9 (plainElem (H := Unit) Tryd.prog 3) mb E.length (putN E E.length)) :
    Calls Tryd.prog 102 #[.pointer (some ⟨b, 0, none⟩), v, .map (some mb)] w fun e w' => ∃ u, e = .returned u ∧ w'.ownsRow w.heap.size 3 1 u (numsF E names).length ((ints (numsF E names)).map (Value.int .i64)) ∧ RdSt b rest (lost || missF E names) w w' := by
  obtain ⟨i0, hi, hz0, hz1, hz2⟩ := info_parts infoI
  have hbw : b < w.heap.size := heap_lt hr
  obtain ⟨pv, cv, rfl⟩ := ownsRow_slice hv
  have hml := hm.lt
  have hmne := map_ne hm hr
  obtain ⟨n, hnn⟩ : ∃ n, n = names.length := ⟨_, rfl⟩
  rw [← hnn] at hv hn ⊢
  have HV : Hid (∀ V, Diff (fun k => k = b) w V → Rd V (.slice pv n cv) (names.map strV)) := fun V h => by
    have h2 := ownsRow_type hv hr (by decide) h
    have h3 : (names.map strV).length = n := by simp [hnn]
    have := rd_own (vs := names.map strV) (by rw [h3]; exact h2) (by rw [h3]; omega)
    exact this
  have HM : Hid (∀ V, Diff (fun k => k = b) w V → V.ownsMap Tryd.prog 9 (plainElem (H := Unit) Tryd.prog 3) mb E.length (putN E E.length)) := fun V h => ownsMap_at hm (h.block mb hml hmne)
  have HX := Lib.hid hx; have HNN := Lib.hid hnn
  have H0 : Hid (RdSt b rest (lost || (names.take 0).any fun x => !(atN E x E.length).2) w w) := ⟨by simpa using hr, Diff.refl _ _⟩
  clear hv hm hr hx hnn hml hmne
  go_enter Tryd.func102, Tryd.ntmps102
  go_wp2_with fail
  go_loopw [7, 14] (fun u i wx => ∃ k : Nat, k ≤ n ∧ i = .int .i64 k ∧ wx.ownsRow w.heap.size 3 1 u k ((ints (numsF E (names.take k))).map (Value.int .i64)) ∧ Hid (RdSt b rest (lost || (names.take k).any fun x => !(atN E x E.length).2) w wx)) (fun _ i _ => n - (intOf i).toNat)
  case atStart => exact ⟨0, Nat.zero_le _, rfl, ⟨rfl, .inl ⟨rfl, rfl⟩⟩, H0⟩
  case round =>
    clear H0
    obtain ⟨k, hk, rfl, hown, hst⟩ := hrel
    obtain ⟨pu, cu, rfl⟩ := ownsRow_slice hown
    by_cases hlt : k < n
    · have hkl : k < (names.map strV).length := by have := HNN.out; simp; omega
      have hkl2 : k < names.length := by have := HNN.out; omega
      obtain ⟨bn, on, rfl, hcell⟩ := (HV.out wr hst.out.d).cell hkl
      obtain ⟨x, hxe⟩ : ∃ x, x = names.getD k [] := ⟨_, rfl⟩
      have hcell2 : wr.cell? ⟨bn, on + k, none⟩ = some (.string (mkS x)) := by rw [hcell, hxe]; simp [strV, List.getD_eq_getElem?_getD, hkl2]
      have hxl : x.length ≤ 1000000 := HX.out x (by rw [hxe]; simp [List.getD_eq_getElem?_getD, hkl2])
      have HKEY := Lib.hid (key_mk x hxl)
      have HMR := Lib.hid (HM.out wr hst.out.d)
      have hat := putN_at E x E.length
      obtain ⟨c, hc⟩ : ∃ c, c = (atN E x E.length).1 := ⟨_, rfl⟩
      obtain ⟨y, hy⟩ : ∃ c, c = (atN E x E.length).2 := ⟨_, rfl⟩
      rw [← hc, ← hy] at hat
      have hcE : c ≤ E.length := by rw [hc]; exact atN_le _ _ _
      have hnum : numsF E (names.take (k + 1)) = numsF E (names.take k) ++ [c] := by
        rw [List.take_succ_eq_append_getElem hkl2]
        have : names[k] = x := by rw [hxe]; simp [List.getD_eq_getElem?_getD, hkl2]
        simp [numsF, this, hc]
      have hmis : ((names.take (k + 1)).any fun x => !(atN E x E.length).2) = (((names.take k).any fun x => !(atN E x E.length).2) || !y) := by
        rw [List.take_succ_eq_append_getElem hkl2, List.any_append]
        have : names[k] = x := by rw [hxe]; simp [List.getD_eq_getElem?_getD, hkl2]
        simp [this, hy]
      obtain ⟨L, hL⟩ : ∃ L, L = (ints (numsF E (names.take k))).map (Value.int .i64) := ⟨_, rfl⟩
      obtain ⟨m, hm⟩ : ∃ m, m = (lost || (names.take k).any fun x => !(atN E x E.length).2) := ⟨_, rfl⟩
      rw [← hL] at hown
      rw [← hm] at hst
      have HN : Hid ((ints (numsF E (names.take (k + 1)))).map (Value.int .i64) = L ++ [.int .i64 (c : Nat)]) := by show _ = _; rw [hnum, hL]; simp [ints]
      have HI : Hid ((lost || (names.take (k + 1)).any fun x => !(atN E x E.length).2) = (m || !y)) := by show _ = _; rw [hmis, hm, Bool.or_assoc]
      have HAT := Lib.hid hat; have HO := Lib.hid hown; have HST := Lib.hid hst.out
      obtain ⟨⟨c0, c1⟩, f0, f1⟩ := hst.out.r.cells
      clear hcell hkl hkl2 hxe hxl hc hy hat hnum hmis hL hm hown hst c0 f0
      cases y with
      | true =>
        have HI2 : Hid ((lost || (names.take (k + 1)).any fun x => !(atN E x E.length).2) = m) := by show _ = _; rw [HI.out]; simp
        have hs0 := HST.out.d.size
        go_wp2_with (first
          | (at_lookup; refine wpList_lookup_num _ rfl _ _ 129 rfl 9 3 .i64 klaw Tryd.underlying129 Tryd.underlying3 (zeroInt _) mb E.length (putN E E.length) rfl HMR.out _ _ rfl HKEY.out (c : Int) true HAT.out.1 HAT.out.2 ?_)
          | (at_builtin; refine wpList_append_own _ rfl _ _ 35 rfl w.heap.size 3 i0 (.int .i64 0) 1 8 Tryd.underlying35 hi hz0 hz1 hz2 rfl (by decide) _ _ _ rfl (HO.out.alloc _) ⟨wr.heap.size, 0, none⟩ 1 1 [.int .i64 (c : Int)] rfl rfl ?c1 ?c2 (by unfold maxLen; omega) (by omega) (by simp; omega) ?_)
          | go_in)
        case c1 => intro j u hj; match j, hj with | 0, hj => (simp at hj; subst hj; simp [Addr.add])
        case c2 => intro u hu; simp at hu; subst hu; rfl
        intro v' w3 hown' hgrow _
        have HLT := Lib.hid HO.out.lt
        have hb3 : Below w.heap.size wr w3 := Below.grown ((Below.refl _ _).alloc hs0 _) hgrow (by simp; omega) (fun j hj => (HLT.out j hj).1)
        have hfin : Hid (RdSt b rest (lost || (names.take (k + 1)).any fun x => !(atN E x E.length).2) w w3) := by show RdSt _ _ _ _ _; rw [HI2.out]; exact HST.out.grown hb3 hbw
        have hown3 : w3.ownsRow w.heap.size 3 1 v' (k + 1) ((ints (numsF E (names.take (k + 1)))).map (Value.int .i64)) := by rw [HN.out]; exact hown'
        clear hown' hgrow hb3 c1 f1 HLT hs0
        go_wp2
        go_roundw
        case rel => exact ⟨k + 1, by omega, by go_num, hown3, hfin⟩
        case measure => simp [intOf]; omega
      | false =>
        have HI2 : Hid ((lost || (names.take (k + 1)).any fun x => !(atN E x E.length).2) = true) := by show _ = _; rw [HI.out]; simp
        have hs0 := HST.out.d.size
        have hst2 : RdSt b rest true w (wr.setCell ⟨b, 1, none⟩ (.bool true)) := ⟨HST.out.r.set1, Diff.setCell (Z := fun k => k = b) (p := ⟨b, 1, none⟩) HST.out.d rfl _⟩
        have ho2 : (wr.setCell ⟨b, 1, none⟩ (.bool true)).ownsRow w.heap.size 3 1 (.slice pu k cu) k L := ownsRow_set HO.out HST.out.r (by decide)
        have HST2 := Lib.hid hst2; have HO2 := Lib.hid ho2
        have hs2 : w.heap.size ≤ (wr.setCell ⟨b, 1, none⟩ (.bool true)).heap.size := hst2.d.size
        have hsz : (wr.setCell ⟨b, 1, none⟩ (.bool true)).heap.size = wr.heap.size := World.size_setCell ..
        clear hst2 ho2
        go_wp2_with (first
          | (at_lookup; refine wpList_lookup_num _ rfl _ _ 129 rfl 9 3 .i64 klaw Tryd.underlying129 Tryd.underlying3 (zeroInt _) mb E.length (putN E E.length) rfl HMR.out _ _ rfl HKEY.out (c : Int) false HAT.out.1 HAT.out.2 ?_)
          | (at_builtin; refine wpList_append_own _ rfl _ _ 35 rfl w.heap.size 3 i0 (.int .i64 0) 1 8 Tryd.underlying35 hi hz0 hz1 hz2 rfl (by decide) _ _ _ rfl (HO2.out.alloc _) ⟨wr.heap.size, 0, none⟩ 1 1 [.int .i64 (c : Int)] rfl rfl ?c1 ?c2 (by unfold maxLen; omega) (by omega) (by simp; omega) ?_)
          | go_in)
        case c1 => intro j u hj; match j, hj with | 0, hj => (simp at hj; subst hj; simp [Addr.add, go_sem])
        case c2 => intro u hu; simp at hu; subst hu; rfl
        intro v' w3 hown' hgrow _
        have HLT := Lib.hid HO2.out.lt
        have hb3 : Below w.heap.size (wr.setCell ⟨b, 1, none⟩ (.bool true)) w3 := Below.grown ((Below.refl _ _).alloc hs2 _) hgrow (by simp; omega) (fun j hj => (HLT.out j hj).1)
        have hfin : Hid (RdSt b rest (lost || (names.take (k + 1)).any fun x => !(atN E x E.length).2) w w3) := by show RdSt _ _ _ _ _; rw [HI2.out]; exact HST2.out.grown hb3 hbw
        have hown3 : w3.ownsRow w.heap.size 3 1 v' (k + 1) ((ints (numsF E (names.take (k + 1)))).map (Value.int .i64)) := by rw [HN.out]; exact hown'
        clear hown' hgrow hb3 c1 f1 HLT hs0 hs2 hsz
        go_wp2
        go_roundw
        case rel => exact ⟨k + 1, by omega, by go_num, hown3, hfin⟩
        case measure => simp [intOf]; omega
    · have hkn : k = n := by omega
      subst hkn
      have htk : names.take k = names := List.take_of_length_le (by have := HNN.out; omega)
      rw [htk] at hown hst
      have HO := Lib.hid hown
      have HLN : Hid ((numsF E names).length = k) := by show _ = _; rw [HNN.out]; simp [numsF]
      clear hown htk
      go_wp2
      go_ret
      exact ⟨_, rfl, by rw [HLN.out]; exact HO.out, hst.out⟩
end Go.Proofs.YtfhnigpjmljhbaaDoor.Or
