/- Lists and tables in memory, names, ranges over functions, and the first contracts. -/
import Derived.Test.YtfhnigpjmljhbaaDoorProg
import Derived.WalkKit
import Derived.WalkSpells
import Derived.Deep.QuietTactic
import Derived.BigQuiet
import Derived.Lib.Hide
import Derived.Lib.SmallJoins
import Derived.Deep.RegionHeld3
import Derived.Test.YtfhnigpjmljhbaaDoorOrP0
import Derived.RangeFuncNested
import Derived.RangeFuncBound
import Derived.RangeFuncLeaves
import Derived.Shelf.Abstract
import Derived.Lib.OthersKept
import Derived.BigCall
set_option linter.unusedVariables false
set_option linter.unusedSimpArgs false
/- Lists in memory: texts, integers, truth values, lists of lists; tables. -/
namespace Go.Proofs.YtfhnigpjmljhbaaDoor.Or
open Go.RowKit

theorem ret_int {k : IntKind} {a b : Int} (h : a = b) : Ending.returned (.int k a) = .returned (.int k b) := by rw [h]
theorem ret_bool {a b : Bool} (h : a = b) : Ending.returned (.bool a) = .returned (.bool b) := by rw [h]
theorem ret_int2 {k m : IntKind} {a b c d : Int} (h : a = c) (h' : b = d) : Ending.returned (.tuple #[.int k a, .int m b]) = .returned (.tuple #[.int k c, .int m d]) := by rw [h, h']
theorem ret_ib {k : IntKind} {a c : Int} {b d : Bool} (h : a = c) (h' : b = d) : Ending.returned (.tuple #[.int k a, .bool b]) = .returned (.tuple #[.int k c, .bool d]) := by rw [h, h']
theorem ret_bi {k : IntKind} {a c : Int} {b d : Bool} (h : a = c) (h' : b = d) : Ending.returned (.tuple #[.bool b, .int k a]) = .returned (.tuple #[.bool d, .int k c]) := by rw [h, h']
theorem cell_lt {w : World} {a : Addr} {v : Value} (h : w.cell? a = some v) : a.block < w.heap.size := by
  refine Nat.lt_of_not_le fun hn => ?_
  have : w.heap[a.block]? = none := by simp; exact hn
  simp [World.cell?, this] at h
theorem bcell' {W w1 : World} (hb : Below W.heap.size W w1) : (∀ b o, b < W.heap.size → w1.cell? ⟨b, o, none⟩ = W.cell? ⟨b, o, none⟩) ∧ (∀ b o, b < W.heap.size → w1.frozen? ⟨b, o, none⟩ = W.frozen? ⟨b, o, none⟩) :=
  ⟨fun b o h => hb.cell (p := ⟨b, o, none⟩) h, fun b o h => hb.frozen (p := ⟨b, o, none⟩) h⟩
theorem below_drewAt (base : Nat) (w : World) (n : Nat) : Below base w (w.drewN n) := ⟨rfl, rfl, rfl, Nat.le_refl _, fun _ _ => rfl⟩
theorem ownsRow_slice {w : World} {base : Nat} {e : TypeId} {size : Nat} {v : Value} {n : Nat} {xs : List Value} (h : w.ownsRow base e size v n xs) : ∃ (ptr : Option Addr) (cap : Nat), v = .slice ptr n cap := by
  rcases h.2 with ⟨h1, h0⟩ | ⟨g, cap, cur, h1, _⟩
  · exact ⟨none, 0, by rw [h1, h0]⟩
  · exact ⟨_, _, h1⟩
theorem ownsRow_base {w : World} {base base' : Nat} {e : TypeId} {size : Nat} {v : Value} {n : Nat} {xs : List Value} (h : w.ownsRow base e size v n xs) (hb : base' ≤ base) : w.ownsRow base' e size v n xs := by
  refine ⟨h.1, ?_⟩
  rcases h.2 with hn | ⟨g, cap, cur, rfl, hg, rest⟩
  · exact .inl hn
  · exact .inr ⟨g, cap, cur, rfl, Nat.le_trans hb hg, rest⟩
theorem ownsRow_block {w w' : World} {base : Nat} {e : TypeId} {size : Nat} {v : Value} {n : Nat} {xs : List Value} (h : w.ownsRow base e size v n xs) (hb : ∀ k, base ≤ k → k < w.heap.size → w'.heap[k]? = w.heap[k]?) : w'.ownsRow base e size v n xs := by
  refine ⟨h.1, ?_⟩
  rcases h.2 with hn | ⟨g, cap, cur, rfl, hg, hgg, rest⟩
  · exact .inl hn
  · exact .inr ⟨g, cap, cur, rfl, hg, by rw [hb g hg (Array.getElem?_eq_some_iff.1 hgg).1]; exact hgg, rest⟩
theorem ownsRow_below {w w' : World} {base : Nat} {e : TypeId} {size : Nat} {v : Value} {n : Nat} {xs : List Value} (h : w.ownsRow base e size v n xs) (hb : Below w.heap.size w w') : w'.ownsRow base e size v n xs :=
  ownsRow_block h (fun k _ hk => hb.block k hk)

/-- A text as a value. -/
def mkS (l : List UInt8) : ByteArray := ⟨l.toArray⟩
theorem mkS_size (l : List UInt8) : (mkS l).size = l.length := by simp [mkS, ByteArray.size]
theorem mkS_list (l : List UInt8) : (mkS l).data.toList = l := by simp [mkS]
theorem mkS_self (s : ByteArray) : mkS s.data.toList = s := by cases s; simp [mkS]
theorem mkS_tl {a b : List UInt8} : ((mkS a).toList = (mkS b).toList) ↔ a = b := by
  rw [ByteArray.toList_eq, ByteArray.toList_eq]
  constructor
  · intro h; have : (mkS a).data.toList = (mkS b).data.toList := h
    simpa [mkS] using this
  · intro h; rw [h]
theorem mkS_toList (a : List UInt8) : (mkS a).toList = a := by rw [ByteArray.toList_eq]; exact mkS_list a
theorem mkS_get (a : List UInt8) (i : Nat) (h : i < (mkS a).size) : (mkS a)[i] = a.getD i 0 := by
  have h' : i < a.length := by rw [mkS_size] at h; exact h
  show (mkS a).data[i] = _
  simp [mkS, List.getD_eq_getElem?_getD, h']

/-- A slice of elements of one cell each reads as a list of values. -/
def Rd (w : World) (v : Value) (vs : List Value) : Prop :=
  ∃ (p : Option Addr) (cap : Nat), v = .slice p vs.length cap ∧ (vs.length ≤ 9223372036854775807 ∧ vs.length ≤ cap) ∧
    (vs.length = 0 ∨ ∃ b off, p = some ⟨b, off, none⟩ ∧ ∀ i (h : i < vs.length), w.cell? ⟨b, off + i, none⟩ = some vs[i])
theorem Rd.below {w w' : World} {v : Value} {vs : List Value} (h : Rd w v vs) (hb : Below w.heap.size w w') : Rd w' v vs := by
  obtain ⟨p, cap, rfl, hl, h0⟩ := h
  refine ⟨p, cap, rfl, hl, ?_⟩
  rcases h0 with h0 | ⟨b, off, rfl, hc⟩
  · exact .inl h0
  · exact .inr ⟨b, off, rfl, fun i hi => (hb.cell (cell_lt (hc i hi))).trans (hc i hi)⟩
theorem Rd.nil (w : World) : Rd w (.slice none 0 0) [] := ⟨none, 0, rfl, ⟨Nat.zero_le _, Nat.le_refl _⟩, .inl rfl⟩
theorem Rd.cell {w : World} {p : Option Addr} {n cap : Nat} {vs : List Value} (h : Rd w (.slice p n cap) vs) {i : Nat} (hi : i < vs.length) : ∃ b off, p = some ⟨b, off, none⟩ ∧ w.cell? ⟨b, off + i, none⟩ = some vs[i] := by
  obtain ⟨p', cap', he, hl, h0⟩ := h
  simp only [Value.slice.injEq] at he
  obtain ⟨rfl, _, _⟩ := he
  rcases h0 with h0 | ⟨b, off, rfl, hc⟩
  · omega
  · exact ⟨b, off, rfl, hc i hi⟩
theorem Rd.form {w : World} {v : Value} {vs : List Value} (h : Rd w v vs) : ∃ p cap, v = .slice p vs.length cap := let ⟨p, cap, e, _⟩ := h; ⟨p, cap, e⟩
theorem Rd.len {w : World} {v : Value} {vs : List Value} (h : Rd w v vs) : vs.length ≤ 9223372036854775807 := let ⟨_, _, _, e, _⟩ := h; e.1
theorem Rd.capE {w : World} {p : Option Addr} {n cap : Nat} {vs : List Value} (h : Rd w (.slice p n cap) vs) : n = vs.length ∧ n ≤ cap := by
  obtain ⟨p', cap', he, hl, h0⟩ := h
  simp only [Value.slice.injEq] at he
  obtain ⟨_, rfl, rfl⟩ := he
  exact ⟨rfl, hl.2⟩
theorem Rd.take {w : World} {p : Option Addr} {n cap : Nat} {vs : List Value} (h : Rd w (.slice p n cap) vs) {k : Nat} (hk : k ≤ n) : Rd w (.slice p k cap) (vs.take k) := by
  obtain ⟨p', cap', he, hl, h0⟩ := h
  simp only [Value.slice.injEq] at he
  obtain ⟨rfl, rfl, rfl⟩ := he
  have hlen : (vs.take k).length = k := by rw [List.length_take]; omega
  refine ⟨p, cap, by rw [hlen], by rw [hlen]; omega, ?_⟩
  rcases h0 with h0 | ⟨b, off, rfl, hc⟩
  · exact .inl (by omega)
  · exact .inr ⟨b, off, rfl, fun i hi => by rw [hc i (by omega)]; simp⟩
theorem rd_own {w : World} {base : Nat} {e : TypeId} {v : Value} {vs : List Value} (h : w.ownsRow base e 1 v vs.length vs) (hl : vs.length ≤ 9223372036854775807) : Rd w v vs := by
  rcases h.2 with ⟨h1, h0⟩ | ⟨g, cap, cur, rfl, hg, hgg, hcap, hmax, hsz, htake⟩
  · exact ⟨none, 0, by rw [h1, h0], ⟨hl, by omega⟩, .inl h0⟩
  · refine ⟨_, cap, rfl, ⟨hl, hcap⟩, .inr ⟨g, 0, rfl, fun i hi => ?_⟩⟩
    have := h.cells (g := g) rfl i vs[i] (by simp)
    have hadd : (⟨g, 0, none⟩ : Addr).add i = ⟨g, i, none⟩ := by unfold Addr.add; split <;> simp_all
    rw [hadd] at this
    rw [Nat.zero_add]; exact this
theorem rd_block {w : World} {b : Nat} {vs : List Value} {cs : Array Value} {T : TypeId} {fr : Nat × Nat} {cap : Nat} (h : w.heap[b]? = some (.cells cs T fr)) (hc : cs.toList = vs) (hl : vs.length ≤ 9223372036854775807) (hcap : vs.length ≤ cap) : Rd w (.slice (some ⟨b, 0, none⟩) vs.length cap) vs := by
  refine ⟨_, cap, rfl, ⟨hl, hcap⟩, .inr ⟨b, 0, rfl, fun i hi => ?_⟩⟩
  rw [Nat.zero_add]
  subst hc
  simp [World.cell?, h]

def strV (l : List UInt8) : Value := .string (mkS l)
def RdS (w : World) (v : Value) (ls : List (List UInt8)) : Prop := Rd w v (ls.map strV)
def RdI (w : World) (v : Value) (ns : List Int) : Prop := Rd w v (ns.map (Value.int .i64))
def RdB (w : World) (v : Value) (bs : List Bool) : Prop := Rd w v (bs.map Value.bool)
def RdII (w : World) (v : Value) (ls : List (List Int)) : Prop := ∃ vs, Rd w v vs ∧ vs.length = ls.length ∧ ∀ i (h : i < ls.length) (h' : i < vs.length), RdI w vs[i] ls[i]
theorem RdS.below {w w' : World} {v : Value} {ls : List (List UInt8)} (h : RdS w v ls) (hb : Below w.heap.size w w') : RdS w' v ls := Rd.below h hb
theorem RdI.below {w w' : World} {v : Value} {ls : List Int} (h : RdI w v ls) (hb : Below w.heap.size w w') : RdI w' v ls := Rd.below h hb
theorem RdB.below {w w' : World} {v : Value} {ls : List Bool} (h : RdB w v ls) (hb : Below w.heap.size w w') : RdB w' v ls := Rd.below h hb
theorem RdII.below {w w' : World} {v : Value} {ls : List (List Int)} (h : RdII w v ls) (hb : Below w.heap.size w w') : RdII w' v ls := by
  obtain ⟨vs, h1, h2, h3⟩ := h
  exact ⟨vs, h1.below hb, h2, fun i hi hi' => (h3 i hi hi').below hb⟩
theorem RdS.form {w : World} {v : Value} {ls : List (List UInt8)} (h : RdS w v ls) : ∃ p cap, v = .slice p ls.length cap := by have := Rd.form h; simpa using this
theorem RdI.form {w : World} {v : Value} {ls : List Int} (h : RdI w v ls) : ∃ p cap, v = .slice p ls.length cap := by have := Rd.form h; simpa using this
theorem RdB.form {w : World} {v : Value} {ls : List Bool} (h : RdB w v ls) : ∃ p cap, v = .slice p ls.length cap := by have := Rd.form h; simpa using this
theorem RdII.form {w : World} {v : Value} {ls : List (List Int)} (h : RdII w v ls) : ∃ p cap, v = .slice p ls.length cap := by
  obtain ⟨vs, h1, h2, h3⟩ := h
  obtain ⟨p, cap, rfl⟩ := h1.form
  exact ⟨p, cap, by rw [h2]⟩
theorem RdS.len {w : World} {v : Value} {ls : List (List UInt8)} (h : RdS w v ls) : ls.length ≤ 9223372036854775807 := by have := Rd.len h; simpa using this
theorem RdI.len {w : World} {v : Value} {ls : List Int} (h : RdI w v ls) : ls.length ≤ 9223372036854775807 := by have := Rd.len h; simpa using this
theorem RdB.len {w : World} {v : Value} {ls : List Bool} (h : RdB w v ls) : ls.length ≤ 9223372036854775807 := by have := Rd.len h; simpa using this
theorem RdII.len {w : World} {v : Value} {ls : List (List Int)} (h : RdII w v ls) : ls.length ≤ 9223372036854775807 := by
  obtain ⟨vs, h1, h2, h3⟩ := h
  have := h1.len; omega
theorem RdS.cell {w : World} {p : Option Addr} {n cap : Nat} {ls : List (List UInt8)} (h : RdS w (.slice p n cap) ls) {i : Nat} (hi : i < ls.length) : ∃ b off, p = some ⟨b, off, none⟩ ∧ w.cell? ⟨b, off + i, none⟩ = some (.string (mkS (ls.getD i []))) := by
  obtain ⟨b, off, h1, h2⟩ := Rd.cell h (i := i) (by simpa using hi)
  refine ⟨b, off, h1, ?_⟩
  rw [h2]; simp [strV, List.getD_eq_getElem?_getD, hi]
theorem RdI.cell {w : World} {p : Option Addr} {n cap : Nat} {ls : List Int} (h : RdI w (.slice p n cap) ls) {i : Nat} (hi : i < ls.length) : ∃ b off, p = some ⟨b, off, none⟩ ∧ w.cell? ⟨b, off + i, none⟩ = some (.int .i64 (ls.getD i 0)) := by
  obtain ⟨b, off, h1, h2⟩ := Rd.cell h (i := i) (by simpa using hi)
  refine ⟨b, off, h1, ?_⟩
  rw [h2]; simp [List.getD_eq_getElem?_getD, hi]
theorem RdB.cell {w : World} {p : Option Addr} {n cap : Nat} {ls : List Bool} (h : RdB w (.slice p n cap) ls) {i : Nat} (hi : i < ls.length) : ∃ b off, p = some ⟨b, off, none⟩ ∧ w.cell? ⟨b, off + i, none⟩ = some (.bool (ls.getD i false)) := by
  obtain ⟨b, off, h1, h2⟩ := Rd.cell h (i := i) (by simpa using hi)
  refine ⟨b, off, h1, ?_⟩
  rw [h2]; simp [List.getD_eq_getElem?_getD, hi]
theorem RdII.cell {w : World} {p : Option Addr} {n cap : Nat} {ls : List (List Int)} (h : RdII w (.slice p n cap) ls) {i : Nat} (hi : i < ls.length) : ∃ b off q c, p = some ⟨b, off, none⟩ ∧ w.cell? ⟨b, off + i, none⟩ = some (.slice q (ls.getD i []).length c) ∧ RdI w (.slice q (ls.getD i []).length c) (ls.getD i []) := by
  obtain ⟨vs, h1, h2, h3⟩ := h
  obtain ⟨b, off, e1, e2⟩ := Rd.cell h1 (i := i) (by omega)
  have h4 := h3 i hi (by omega)
  obtain ⟨q, c, e⟩ := h4.form
  have hg : ls.getD i [] = ls[i] := by simp [List.getD_eq_getElem?_getD, hi]
  rw [hg]
  refine ⟨b, off, q, c, e1, ?_, ?_⟩
  · rw [e2, e]
  · rw [← e]; exact h4

/-- A table. -/
structure Tab where
  name : List UInt8
  elems : List (List UInt8)
  above : List (List Int)
  wrong : List Bool
/-- A table in memory: its three lists. -/
structure TabIn (w : World) (ve va vw : Value) (t : Tab) : Prop where
  e : RdS w ve t.elems
  a : RdII w va t.above
  w : RdB w vw t.wrong
theorem TabIn.below {w w' : World} {ve va vw : Value} {t : Tab} (h : TabIn w ve va vw t) (hb : Below w.heap.size w w') : TabIn w' ve va vw t := ⟨h.e.below hb, h.a.below hb, h.w.below hb⟩
/-- A table as a value. -/
def tabV (t : Tab) (ve va vw : Value) : Value := .agg #[.string (mkS t.name), ve, va, vw]
end Go.Proofs.YtfhnigpjmljhbaaDoor.Or
/- Names, ascending lists, different texts, the form of a table: plain functions. No program is spoken of here. -/
namespace Go.Proofs.YtfhnigpjmljhbaaDoor.Or

def letN (c : Nat) : Bool := decide (97 ≤ c) && decide (c ≤ 122)
def digN (c : Nat) : Bool := decide (48 ≤ c) && decide (c ≤ 57)
/-- Whether a byte can stand in a name. -/
def nmB (c : UInt8) : Bool := letN c.toNat || digN c.toNat
/-- Where a word ends. -/
def wendF (l : List UInt8) : Nat := (l.takeWhile nmB).length
/-- Whether a text is a name. -/
def nameF (l : List UInt8) : Bool := decide (1 ≤ l.length) && decide (l.length ≤ 12) && letN (l.getD 0 0).toNat && l.all nmB
def shapeWords : List (List UInt8) := [[], [102, 108, 97, 103], [109, 97, 120], [115, 101, 116], [111, 110, 99, 101], [], [109, 97, 112], [112, 97, 105, 114]]
def wordsL : List (List UInt8) := [[102, 108, 97, 103], [109, 97, 120], [115, 101, 116], [111, 110, 99, 101], [109, 97, 112], [112, 97, 105, 114]]
/-- Whether a text can name a table. -/
def tnameF (l : List UInt8) : Bool := nameF l && !wordsL.contains l
theorem wend_le (l : List UInt8) : wendF l ≤ l.length := by unfold wendF; exact (List.takeWhile_prefix _).length_le
theorem wend_all (l : List UInt8) : wendF l = l.length ↔ l.all nmB = true := by
  unfold wendF
  induction l with
  | nil => simp
  | cons c r ih =>
    rw [List.takeWhile_cons, List.all_cons]
    cases nmB c with
    | true => simp only [if_pos, List.length_cons, Nat.add_right_cancel_iff, Bool.true_and]; exact ih
    | false => simp
theorem wend_at {l : List UInt8} {k : Nat} (hk : k < l.length) (hp : ∀ j, j < k → nmB (l.getD j 0) = true) (hn : nmB (l.getD k 0) = false) : wendF l = k := by
  unfold wendF
  induction l generalizing k with
  | nil => simp at hk
  | cons c r ih =>
    cases k with
    | zero => simp at hn; simp [hn]
    | succ k =>
      have h0 := hp 0 (by omega)
      simp at h0
      rw [List.takeWhile_cons, if_pos h0, List.length_cons, ih (k := k) (by simpa using hk) (fun j hj => by have := hp (j + 1) (by omega); simpa using this) (by simpa using hn)]
theorem wend_end {l : List UInt8} (hp : ∀ j, j < l.length → nmB (l.getD j 0) = true) : wendF l = l.length := by
  rw [wend_all, List.all_eq_true]
  intro x hx
  obtain ⟨i, hi, rfl⟩ := List.getElem_of_mem hx
  have := hp i hi
  simpa [List.getD_eq_getElem?_getD, hi] using this
theorem tname_words (l : List UInt8) : tnameF l = (!shapeWords.contains l && nameF l) := by
  unfold tnameF
  by_cases h : l = []
  · subst h; decide
  · rw [Bool.and_comm]
    congr 2
    simp [wordsL, shapeWords, h]

/-- Whether a list ascends from behind a number, below another one. -/
def ascF (n : Int) : Int → List Int → Bool
  | _, [] => true
  | last, x :: r => decide (last < x) && decide (x < n) && ascF n x r
/-- Whether texts are different. -/
def distF (l : List (List UInt8)) : Bool := (List.range l.length).all fun i => !(l.take i).contains (l.getD i [])
/-- Where a text first is in a list. -/
def findF (l : List (List UInt8)) (s : List UInt8) : Int := if l.idxOf s < l.length then (l.idxOf s : Int) else -1
theorem find_at {l : List (List UInt8)} {s : List UInt8} {k : Nat} (hk : k < l.length) (he : l.getD k [] = s) (hn : s ∉ l.take k) : findF l s = k := by
  have hi : l.idxOf s = k := by
    induction l generalizing k with
    | nil => simp at hk
    | cons x r ih =>
      cases k with
      | zero => simp at he; simp [he]
      | succ k =>
        rw [List.take_succ_cons, List.mem_cons, not_or] at hn
        rw [List.idxOf_cons]
        have hx : (x == s) = false := by rw [beq_eq_false_iff_ne]; exact fun h => hn.1 h.symm
        rw [hx]
        simp only [cond_false]
        have := ih (k := k) (by simpa using hk) (by simpa using he) hn.2
        omega
  unfold findF; rw [hi, if_pos hk]
theorem find_no {l : List (List UInt8)} {s : List UInt8} (hn : s ∉ l) : findF l s = -1 := by
  unfold findF
  rw [if_neg]
  rw [List.idxOf_lt_length_iff]; exact hn
theorem find_cases (l : List (List UInt8)) (s : List UInt8) : (findF l s = -1 ∧ s ∉ l) ∨ (∃ k : Nat, k < l.length ∧ findF l s = k ∧ l.getD k [] = s ∧ s ∉ l.take k) := by
  by_cases h : s ∈ l
  · right
    induction l with
    | nil => simp at h
    | cons x r ih =>
      by_cases hx : x = s
      · exact ⟨0, by simp, find_at (by simp) (by simpa using hx) (by simp), by simpa using hx, by simp⟩
      · have hr : s ∈ r := by
          rcases List.mem_cons.1 h with h | h
          · exact absurd h.symm hx
          · exact h
        obtain ⟨k, k1, k2, k3, k4⟩ := ih hr
        have hm : s ∉ (x :: r).take (k + 1) := by
          rw [List.take_succ_cons, List.mem_cons, not_or]; exact ⟨fun h => hx h.symm, k4⟩
        exact ⟨k + 1, by simpa using k1, find_at (by simpa using k1) (by simpa using k3) hm, by simpa using k3, hm⟩
  · exact .inl ⟨find_no h, h⟩
theorem find_self {l : List (List UInt8)} {i : Nat} (hi : i < l.length) : (findF l (l.getD i []) == (i : Int)) = !(l.take i).contains (l.getD i []) := by
  rcases find_cases l (l.getD i []) with ⟨h1, h2⟩ | ⟨k, k1, k2, k3, k4⟩
  · exact absurd (by simp [List.getD_eq_getElem?_getD, hi]) h2
  · rw [k2]
    by_cases c : (l.getD i []) ∈ l.take i
    · have e : ((l.take i).contains (l.getD i [])) = true := by simpa using c
      rw [e]
      have : k < i := by
        rcases Nat.lt_or_ge k i with h | h
        · exact h
        · exact absurd (List.mem_of_mem_take (i := i) (by rw [List.take_take, Nat.min_eq_left h]; exact c) |> fun _ => (List.take_subset_take_left l h) c) k4
      have : ((k : Int) == (i : Int)) = false := by rw [beq_eq_false_iff_ne]; omega
      rw [this]; rfl
    · have e : ((l.take i).contains (l.getD i [])) = false := by simpa using c
      rw [e]
      have h1 : ¬ k < i := fun h => c (by rw [← k3]; rw [List.mem_take_iff_getElem]; exact ⟨k, by omega, by simp [List.getD_eq_getElem?_getD, k1]⟩)
      have h2 : ¬ i < k := fun h => k4 (by rw [List.mem_take_iff_getElem]; exact ⟨i, by omega, by simp [List.getD_eq_getElem?_getD, hi]⟩)
      have : ((k : Int) == (i : Int)) = true := by rw [beq_iff_eq]; omega
      rw [this]; rfl

/-- What an element of a table must be. -/
def rowF (t : Tab) (i : Nat) : Bool := nameF (t.elems.getD i []) && (findF t.elems (t.elems.getD i []) == (i : Int)) && ascF t.elems.length (-1) (t.above.getD i [])
def headF (t : Tab) : Bool := decide (1 ≤ t.elems.length) && decide (t.elems.length ≤ 12) && decide (t.above.length = t.elems.length) && decide (t.wrong.length = t.elems.length)
/-- Whether a table has its form. -/
def frmF (t : Tab) : Bool := headF t && tnameF t.name && (List.range t.elems.length).all (rowF t)
theorem all_range {α : Type} (l : List α) (d : α) (p : α → Bool) : l.all p = (List.range l.length).all fun i => p (l.getD i d) := by
  rw [Bool.eq_iff_iff, List.all_eq_true, List.all_eq_true]
  constructor
  · intro h i hi
    rw [List.mem_range] at hi
    have := h l[i] (by simp)
    simpa [List.getD_eq_getElem?_getD, hi] using this
  · intro h x hx
    obtain ⟨i, hi, rfl⟩ := List.getElem_of_mem hx
    have := h i (List.mem_range.2 hi)
    simpa [List.getD_eq_getElem?_getD, hi] using this
theorem all_and {α : Type} (l : List α) (p q : α → Bool) : (l.all fun x => p x && q x) = (l.all p && l.all q) := by
  induction l with
  | nil => rfl
  | cons x r ih => simp only [List.all_cons, ih]; cases p x <;> cases q x <;> simp
theorem all_congr {α : Type} {l : List α} {p q : α → Bool} (h : ∀ x ∈ l, p x = q x) : l.all p = l.all q := by
  induction l with
  | nil => rfl
  | cons x r ih => rw [List.all_cons, List.all_cons, h x (List.mem_cons_self ..), ih fun y hy => h y (List.mem_cons_of_mem _ hy)]
/-- The form as the program asks for it. -/
theorem frm_code (t : Tab) : frmF t = (headF t && (tnameF t.name && t.elems.all nameF && distF t.elems && t.above.all (ascF t.elems.length (-1)))) := by
  unfold frmF
  by_cases hh : headF t = true
  · have hl : t.above.length = t.elems.length := by unfold headF at hh; simp at hh; exact hh.1.2
    rw [hh, Bool.true_and, Bool.true_and]
    have e : (List.range t.elems.length).all (rowF t) = (t.elems.all nameF && distF t.elems && t.above.all (ascF t.elems.length (-1))) := by
      rw [all_range t.elems [] nameF, all_range t.above [] _, hl]
      unfold distF
      rw [← all_and, ← all_and]
      refine all_congr fun i hi => ?_
      rw [List.mem_range] at hi
      unfold rowF
      rw [find_self hi]
    rw [e, Bool.and_assoc, Bool.and_assoc, Bool.and_assoc]
  · rw [(Bool.not_eq_true _).mp hh]; rfl

/-- The steps of a table, what is reached by some, what is wrong. -/
def Tab.n (t : Tab) : Nat := t.elems.length
def Tab.E (t : Tab) (a b : Nat) : Bool := (t.above.getD a []).contains (b : Int)
def Tab.R (t : Tab) : Nat → Nat → Bool := war t.E t.n
def Tab.wr (t : Tab) (a : Nat) : Bool := t.wrong.getD a false
theorem asc_mem {n : Int} : ∀ {l : List Int} {last x : Int}, ascF n last l = true → x ∈ l → last < x ∧ x < n
  | [], _, x, _, h => by simp at h
  | y :: r, last, x, ha, h => by
    simp only [ascF, Bool.and_eq_true, decide_eq_true_eq] at ha
    rcases List.mem_cons.1 h with h | h
    · subst h; exact ha.1
    · have := asc_mem ha.2 h; exact ⟨by omega, this.2⟩
theorem frm_asc {t : Tab} (h : frmF t = true) {a : Nat} (ha : a < t.above.length) : ascF t.elems.length (-1) (t.above.getD a []) = true := by
  rw [frm_code] at h
  simp only [Bool.and_eq_true] at h
  have := h.2.2
  rw [List.all_eq_true] at this
  exact this _ (by simp [List.getD_eq_getElem?_getD, ha])
theorem frm_len {t : Tab} (h : frmF t = true) : 1 ≤ t.elems.length ∧ t.elems.length ≤ 12 ∧ t.above.length = t.elems.length ∧ t.wrong.length = t.elems.length := by
  unfold frmF headF at h; simp at h
  obtain ⟨⟨⟨⟨⟨h1, h2⟩, h3⟩, h4⟩, _⟩, _⟩ := h
  exact ⟨h1, h2, h3, h4⟩
theorem E_rng {t : Tab} (h : frmF t = true) {a b : Nat} (hE : t.E a b = true) : a < t.n ∧ b < t.n := by
  obtain ⟨_, _, hl, _⟩ := frm_len h
  have hm : (b : Int) ∈ t.above.getD a [] := by unfold Tab.E at hE; simpa using hE
  have ha : a < t.above.length := by
    rcases Nat.lt_or_ge a t.above.length with h1 | h1
    · exact h1
    · rw [List.getD_eq_getElem?_getD, List.getElem?_eq_none h1] at hm; simp at hm
  have := asc_mem (frm_asc h ha) hm
  exact ⟨by unfold Tab.n; omega, by unfold Tab.n; omega⟩
theorem R_path {t : Tab} (h : frmF t = true) {a b : Nat} : t.R a b = true ↔ Pth t.E a b := war_iff fun a b he => (E_rng h he).2
theorem path_rng {t : Tab} (h : frmF t = true) {a b : Nat} (hp : Pth t.E a b) : a < t.n ∧ b < t.n := by
  induction hp with
  | one he => exact E_rng h he
  | more he _ ih => exact ⟨(E_rng h he).1, ih.2⟩
theorem R_rng {t : Tab} (h : frmF t = true) {a b : Nat} (hR : t.R a b = true) : a < t.n ∧ b < t.n := path_rng h ((R_path h).1 hR)
theorem R_trans {t : Tab} (h : frmF t = true) {a b c : Nat} (h1 : t.R a b = true) (h2 : t.R b c = true) : t.R a c = true := (R_path h).2 (((R_path h).1 h1).trans ((R_path h).1 h2))
end Go.Proofs.YtfhnigpjmljhbaaDoor.Or
/- A range over a function value whose iterator writes no cells but its own, and whose body may leave: a law for it. -/
namespace Go.Proofs.YtfhnigpjmljhbaaDoor.Or
open Go.RowKit Go.Shelf

/-- From A to B only blocks of Z have turned, and new ones have come. -/
structure Diff (Z : Nat → Prop) (A B : World) : Prop where
  os : B.os = A.os
  tape : B.tape = A.tape
  output : B.output = A.output
  size : A.heap.size ≤ B.heap.size
  block : ∀ k, k < A.heap.size → ¬ Z k → B.heap[k]? = A.heap[k]?
theorem Diff.refl (Z : Nat → Prop) (A : World) : Diff Z A A := ⟨rfl, rfl, rfl, Nat.le_refl _, fun _ _ _ => rfl⟩
theorem Diff.trans {Z : Nat → Prop} {A B C : World} (h : Diff Z A B) (k : Diff Z B C) : Diff Z A C :=
  ⟨k.os.trans h.os, k.tape.trans h.tape, k.output.trans h.output, Nat.le_trans h.size k.size, fun i hi hz => (k.block i (Nat.lt_of_lt_of_le hi h.size) hz).trans (h.block i hi hz)⟩
theorem Diff.weaken {Z Z' : Nat → Prop} {A B : World} (h : Diff Z A B) (hz : ∀ k, Z k → Z' k) : Diff Z' A B := ⟨h.os, h.tape, h.output, h.size, fun k hk hn => h.block k hk (fun e => hn (hz k e))⟩
theorem Diff.drew {Z : Nat → Prop} {A B : World} (h : Diff Z A B) : Diff Z A B.drew := ⟨h.os, h.tape, h.output, h.size, h.block⟩
theorem Diff.alloc {Z : Nat → Prop} {A B : World} (h : Diff Z A B) (o : Obj) : Diff Z A (B.alloc o) :=
  h.trans ⟨rfl, rfl, rfl, by simp, fun k hk _ => Below.heap_alloc _ _ _ hk⟩
theorem Diff.setCell {Z : Nat → Prop} {A B : World} (h : Diff Z A B) {p : Addr} (hp : Z p.block) (u : Value) : Diff Z A (B.setCell p u) :=
  h.trans ⟨rfl, rfl, rfl, by simp [World.setCell], fun k _ hz => Below.heap_setCell _ _ _ _ (fun e => hz (e ▸ hp))⟩
theorem Diff.putObj {Z : Nat → Prop} {A B : World} (h : Diff Z A B) {l : Nat} (hp : Z l) (o : Obj) : Diff Z A (B.putObj l o) :=
  h.trans ⟨rfl, rfl, rfl, by simp [World.putObj], fun k _ hz => World.putObj_heap_other (fun e => hz (e ▸ hp))⟩
theorem Diff.below {Z : Nat → Prop} {A B : World} {n : Nat} (h : Diff Z A B) (hn : n ≤ A.heap.size) (hz : ∀ k, k < n → ¬ Z k) : Below n A B :=
  ⟨h.os, h.tape, h.output, h.size, fun k hk => h.block k (by omega) (hz k hk)⟩
theorem Below.diff {A B : World} (h : Below A.heap.size A B) (Z : Nat → Prop) : Diff Z A B := ⟨h.os, h.tape, h.output, h.size, fun k hk _ => h.block k hk⟩

/-- From A to B the blocks of Z lie as they lay. -/
structure Keep (Z : Nat → Prop) (A B : World) : Prop where
  size : A.heap.size ≤ B.heap.size
  block : ∀ k, k < A.heap.size → Z k → B.heap[k]? = A.heap[k]?
theorem Keep.refl (Z : Nat → Prop) (A : World) : Keep Z A A := ⟨Nat.le_refl _, fun _ _ _ => rfl⟩
theorem Keep.trans {Z : Nat → Prop} {A B C : World} (h : Keep Z A B) (k : Keep Z B C) : Keep Z A C :=
  ⟨Nat.le_trans h.size k.size, fun i hi hz => (k.block i (Nat.lt_of_lt_of_le hi h.size) hz).trans (h.block i hi hz)⟩
theorem Keep.drew {Z : Nat → Prop} {A B : World} (h : Keep Z A B) : Keep Z A B.drew := ⟨h.size, h.block⟩
theorem Keep.alloc {Z : Nat → Prop} {A B : World} (h : Keep Z A B) (o : Obj) : Keep Z A (B.alloc o) :=
  h.trans ⟨by simp, fun k hk _ => Below.heap_alloc _ _ _ hk⟩
theorem Keep.setCell {Z : Nat → Prop} {A B : World} (h : Keep Z A B) {p : Addr} (hp : ¬ Z p.block) (u : Value) : Keep Z A (B.setCell p u) :=
  h.trans ⟨by simp [World.setCell], fun k _ hz => Below.heap_setCell _ _ _ _ (fun e => hp (e ▸ hz))⟩
theorem Keep.of_below {Z : Nat → Prop} {A B : World} (h : Below A.heap.size A B) : Keep Z A B := ⟨h.size, fun k hk _ => h.block k hk⟩
theorem Keep.weaken {Z Z' : Nat → Prop} {A B : World} (h : Keep Z' A B) (hz : ∀ k, Z k → Z' k) : Keep Z A B := ⟨h.size, fun k hk hk' => h.block k hk (hz k hk')⟩

theorem cell_diff {Z : Nat → Prop} {A B : World} {b o : Nat} {v : Value} (h : A.cell? ⟨b, o, none⟩ = some v) (hd : Diff Z A B) (hz : ¬ Z b) : B.cell? ⟨b, o, none⟩ = some v :=
  (World.cell?_of_block (w := A) (hd.block b (cell_lt h) hz)).trans h
theorem frozen_diff {Z : Nat → Prop} {A B : World} {b o : Nat} {v : Value} {f : Bool} (h : A.cell? ⟨b, o, none⟩ = some v) (hf : A.frozen? ⟨b, o, none⟩ = f) (hd : Diff Z A B) (hz : ¬ Z b) : B.frozen? ⟨b, o, none⟩ = f :=
  (World.frozen?_of_block (w := A) (hd.block b (cell_lt h) hz)).trans hf
theorem cell_keep {Z : Nat → Prop} {A B : World} {b o : Nat} {v : Value} (h : A.cell? ⟨b, o, none⟩ = some v) (hd : Keep Z A B) (hz : Z b) : B.cell? ⟨b, o, none⟩ = some v :=
  (World.cell?_of_block (w := A) (hd.block b (cell_lt h) hz)).trans h
theorem frozen_keep {Z : Nat → Prop} {A B : World} {b o : Nat} {v : Value} {f : Bool} (h : A.cell? ⟨b, o, none⟩ = some v) (hf : A.frozen? ⟨b, o, none⟩ = f) (hd : Keep Z A B) (hz : Z b) : B.frozen? ⟨b, o, none⟩ = f :=
  (World.frozen?_of_block (w := A) (hd.block b (cell_lt h) hz)).trans hf
theorem ownsRow_diff {Z : Nat → Prop} {w w' : World} {base : Nat} {e : TypeId} {size : Nat} {v : Value} {n : Nat} {xs : List Value} (h : w.ownsRow base e size v n xs) (hb : Diff Z w w') (hz : ∀ k, base ≤ k → ¬ Z k) : w'.ownsRow base e size v n xs :=
  ownsRow_block h fun k hk hk' => hb.block k hk' (hz k hk)

/-- What an iterator promises whose rounds may say 'go on' or 'no more': it hands over xs, one after the other, and turns, beside new blocks, those of Z alone; the rounds that go on must keep those of Y. -/
def IterS {α : Type} (F : Fence) (n : Nat) (P : Program) (g : Nat) (lb : Array Value) (encs : α → Array Value) (xs : List α) (Z Y : World → Nat → Prop) (w : World) : Prop :=
  ∀ (l : Nat) (J Jx : List α → World → Prop) (W : World), Below w.heap.size w W → (∀ s A B, J s A → Diff (Z W) A B → J s B) → (∀ s A B, Jx s A → Diff (Z W) A B → Jx s B) →
    (∀ pre x W1, pre ++ [x] <+: xs → J pre W1 → (∀ k, Y W k → k < W1.heap.size) → YieldAt F (n - 1) P l (encs x) W1 fun e W' => (e = .returned (.bool true) ∧ J (pre ++ [x]) W' ∧ Keep (Y W) W1 W') ∨ (e = .returned (.bool false) ∧ Jx (pre ++ [x]) W')) →
    J [] W →
    CallsIn F n P g (#[.func (.yield l) #[] #[]] ++ lb) W fun e W' => (∃ v, e = .returned v) ∧ (J xs W' ∨ ∃ pre x, pre ++ [x] <+: xs ∧ Jx (pre ++ [x]) W')

/-- The ways out of a round's body. -/
def roundEndS {α : Type} (Z : Nat → Prop) (I : List α → World → Prop) (Ix : Code → List α → World → Prop) (xs : List α) (W : World) : Exit → Act → World → Prop
  | .normal, _, W' => Keep Z W W' ∧ I xs W'
  | .ret, _, W' => Keep Z W W' ∧ Ix .ret xs W'
  | .exit id, _, W' => Keep Z W W' ∧ Ix (.exit id) xs W'
  | _, _, _ => False

variable {F : Fence} {n : Nat} {P : Program}

theorem range_till {α : Type} {g : Operand} {ps : Array Tmp} {assign body : Code} {Q : Exit → Act → World → Prop} {a : Act} {w : World}
    (hro : F.round = none) (h1 : 1 ≤ n) {gf : Nat} {lb : Array Value} (hg : a.eval g = .func (.func gf) #[] lb) (hFg : F.fn gf) (eg : ∀ args w, (callFunc gf args).run P w = .ok (.enter gf args) w)
    {encs : α → Array Value} {xs : List α} {Z Y : World → Nat → Prop} {w0 : World} (hiter : IterS F (n - 1) P gf lb encs xs Z Y w0) (hb0 : Below w0.heap.size w0 w) (hps : ∀ x, (encs x).size = ps.size)
    (Z' : Nat → Prop) (hZ : ∀ W1 : World, W1.heap.size = w.heap.size + 2 → ∀ k, Z W1 k → Z' k ∧ k ≠ w.heap.size ∧ k ≠ w.heap.size + 1) (hZ0 : Z' w.heap.size) (hZ1 : Z' (w.heap.size + 1))
    (Y' : Nat → Prop) (hY : ∀ W1 : World, W1.heap.size = w.heap.size + 2 → ∀ k, Y W1 k → Y' k ∧ k ≠ w.heap.size + 1) (hY0 : Y' w.heap.size) (hY1 : Y' (w.heap.size + 1))
    (I : List α → World → Prop) (hI : ∀ s A B, I s A → Diff Z' A B → I s B) (Ix : Code → List α → World → Prop) (hIx : ∀ c s A B, Ix c s A → Diff Z' A B → Ix c s B) (h0 : I [] w)
    (Ax : List α → α → Act → World → Prop) (hAx : ∀ s x a' A B, Ax s x a' A → Diff Z' A B → Ax s x a' B)
    (hassign : ∀ (l : Nat) (pre : List α) (x : α) (W : World) (K : Act → World → Prop), pre ++ [x] <+: xs → I pre W → (∀ k, Y' k → k < W.heap.size) → (∀ a' W', Keep Y' W W' → Ax pre x a' W' → K a' W') →
      assign.wpIn (F.inRound l) (n - 1 - 1) P (Exit.then K (fun _ _ _ => False)) { tmps := (ps.zip (encs x)).foldl (fun t (p, v) => t.setIfInBounds p v) a.tmps, defers := [] } W)
    (hbody : ∀ (l : Nat) (pre : List α) (x : α) (a' : Act) (W : World), pre ++ [x] <+: xs → Ax pre x a' W → (∀ k, Y' k → k < W.heap.size) → body.wpIn (F.inRound l) (n - 1 - 1) P (roundEndS Y' I Ix (pre ++ [x]) W) a' W)
    (hYb : ∀ W1 : World, W1.heap.size = w.heap.size + 2 → ∀ k, Y' k → Y W1 k ∨ k < W1.heap.size)
    (hdone : ∀ (W : World), I xs W → W.heap[w.heap.size]? = some (.deferred (some [])) → Q .normal { a with defers := { target := .collected w.heap.size, args := #[] } :: a.defers } W)
    (hstop : ∀ (c : Code) (pre : List α) (x : α) (W : World), pre ++ [x] <+: xs → Ix c (pre ++ [x]) W → W.heap[w.heap.size]? = some (.deferred (some [])) → c.wpIn F n P Q { a with defers := { target := .collected w.heap.size, args := #[] } :: a.defers } W) :
    (Code.rangeFunc g ps assign body).wpIn F n P Q a w := by
  refine wpIn_rangeFunc ?_
  intro fn hfn
  rw [hro]
  obtain ⟨rec, hrec⟩ : ∃ rec : LoopState → Option Code → Loop, rec = fun st pe => { state := st, pending := pe, fn, tmps := a.tmps, params := ps, assign, body, defers := w.heap.size } := ⟨_, rfl⟩
  obtain ⟨W1, hW1⟩ : ∃ W1, W1 = (w.alloc (.deferred (some []))).alloc (.loop (rec .ready none)) := ⟨_, rfl⟩
  have hs1 : W1.heap.size = w.heap.size + 2 := by rw [hW1]; simp
  have hL1 : W1.heap[w.heap.size + 1]? = some (.loop (rec .ready none)) := by
    rw [hW1]; have := World.alloc_heap_new (w.alloc (.deferred (some []))) (.loop (rec .ready none)); rwa [World.size_alloc] at this
  have hK1 : W1.heap[w.heap.size]? = some (.deferred (some [])) := by
    rw [hW1]; exact (Below.heap_alloc _ _ _ (by simp)).trans (World.alloc_heap_new w _)
  have hI1 : I [] W1 := by rw [hW1]; exact hI _ _ _ h0 (((Diff.refl _ _).alloc _).alloc _)
  have hb1 : Below w0.heap.size w0 W1 := by
    rw [hW1]; exact hb0.trans ((((Below.refl _ w).alloc (Nat.le_refl _) _).alloc (by simp) _).mono hb0.size)
  refine ⟨w.heap.size + 1, [{ target := .collected w.heap.size, args := #[] }], W1, { target := .fn (.func gf) lb, args := #[.func (.yield (w.heap.size + 1)) #[] #[]] }, W1, gf,
    #[.func (.yield (w.heap.size + 1)) #[] #[]] ++ lb, W1, ?_, ?_, ?_, ?_, fun _ => h1, ?_⟩
  · rw [hW1, hrec]; exact run_enterLoop_outer _ _ _ _ _
  · simp only [resolve, hg]
    simp [go_sem]
  · intro f' hf'; simp [Target.leads] at hf'; subst hf'; exact hFg
  · simp [invoke, go_sem, eg]
  · have hz := hZ W1 hs1
    have hy0 := hY W1 hs1
    refine (hiter (w.heap.size + 1) (fun pre W => I pre W ∧ W.heap[w.heap.size + 1]? = some (.loop (rec .ready none)) ∧ W.heap[w.heap.size]? = some (.deferred (some [])))
      (fun pre W => ∃ c, Ix c pre W ∧ W.heap[w.heap.size + 1]? = some (.loop (rec .done (some c))) ∧ W.heap[w.heap.size]? = some (.deferred (some []))) W1 hb1 ?_ ?_ ?_ ⟨hI1, hL1, hK1⟩).mono ?_
    · rintro s A B ⟨hi, hl, hk⟩ hd
      refine ⟨hI s A B hi (hd.weaken fun k hk => (hz k hk).1), ?_, ?_⟩
      · rw [hd.block _ (Array.getElem?_eq_some_iff.1 hl).1 (fun e => (hz _ e).2.2 rfl)]; exact hl
      · rw [hd.block _ (Array.getElem?_eq_some_iff.1 hk).1 (fun e => (hz _ e).2.1 rfl)]; exact hk
    · rintro s A B ⟨c, hi, hl, hk⟩ hd
      refine ⟨c, hIx c s A B hi (hd.weaken fun k hk => (hz k hk).1), ?_, ?_⟩
      · rw [hd.block _ (Array.getElem?_eq_some_iff.1 hl).1 (fun e => (hz _ e).2.2 rfl)]; exact hl
      · rw [hd.block _ (Array.getElem?_eq_some_iff.1 hk).1 (fun e => (hz _ e).2.1 rfl)]; exact hk
    · rintro pre x W hpre ⟨hi, hl, hk⟩ hbnd
      have hlt : w.heap.size + 1 < W.heap.size := (Array.getElem?_eq_some_iff.1 hl).1
      have hbnd' : ∀ k, Y' k → k < W.heap.size := fun k hk => by
        rcases hYb W1 hs1 k hk with h | h
        · exact hbnd k h
        · omega
      have hy := run_yield (P := P) (args := encs x) hl (by rw [hrec]; exact hps x)
      rw [hrec] at hy
      refine ⟨fn, _, assign, body, hy, roundIn_of_wpIn hfn (hassign _ pre x W _ hpre hi hbnd' ?_)⟩
      intro a' Wa hka hax
      have hla : Wa.heap[w.heap.size + 1]? = some (.loop (rec .ready none)) := by rw [hka.block _ hlt hY1]; exact hl
      have hkk : Wa.heap[w.heap.size]? = some (.deferred (some [])) := by rw [hka.block _ (by omega) hY0]; exact hk
      have hlta : w.heap.size + 1 < Wa.heap.size := (Array.getElem?_eq_some_iff.1 hla).1
      refine ⟨_, run_beginRound hla (by rw [hrec]), ?_⟩
      obtain ⟨Wb, hWb⟩ : ∃ Wb, Wb = Wa.putObj (w.heap.size + 1) (.loop { rec .ready none with state := .busy }) := ⟨_, rfl⟩
      rw [← hWb]
      have hdb : Diff Z' Wa Wb := by rw [hWb]; exact (Diff.refl _ _).putObj hZ1 _
      have hsb : Wb.heap.size = Wa.heap.size := by rw [hWb]; simp [World.putObj]
      have hlb : Wb.heap[w.heap.size + 1]? = some (.loop { rec .ready none with state := .busy }) := by rw [hWb]; exact World.putObj_heap_same hlta
      have hkb : Wb.heap[w.heap.size]? = some (.deferred (some [])) := by rw [hWb]; exact (World.putObj_heap_other (by omega)).trans hkk
      refine wpIn_mono (hbody _ pre x a' Wb hpre (hAx _ _ _ _ _ hax hdb) (fun k hk => by rw [hsb]; exact Nat.lt_of_lt_of_le (hbnd' k hk) hka.size)) ?_
      have leave : ∀ (c : Code) (W3 : World), Keep Y' Wb W3 → Ix c (pre ++ [x]) W3 →
          (Instr.endRound (w.heap.size + 1) (some c)).run P W3 = .ok (.bool false) (W3.putObj (w.heap.size + 1) (.loop (rec .done (some c)))) ∧
          ∃ c', Ix c' (pre ++ [x]) (W3.putObj (w.heap.size + 1) (.loop (rec .done (some c)))) ∧ (W3.putObj (w.heap.size + 1) (.loop (rec .done (some c)))).heap[w.heap.size + 1]? = some (.loop (rec .done (some c'))) ∧ (W3.putObj (w.heap.size + 1) (.loop (rec .done (some c)))).heap[w.heap.size]? = some (.deferred (some [])) := by
        intro c W3 hk3 hi3
        have hl3 : W3.heap[w.heap.size + 1]? = some (.loop { rec .ready none with state := .busy }) := by rw [hk3.block _ (by omega) hY1]; exact hlb
        have hk4 : W3.heap[w.heap.size]? = some (.deferred (some [])) := by rw [hk3.block _ (by omega) hY0]; exact hkb
        have hlt3 := (Array.getElem?_eq_some_iff.1 hl3).1
        have hr := run_endRound (P := P) (some c) hl3
        rw [hrec] at hr
        refine ⟨by rw [hrec]; exact hr, c, hIx _ _ _ _ hi3 ((Diff.refl _ _).putObj hZ1 _), World.putObj_heap_same hlt3, (World.putObj_heap_other (by omega)).trans hk4⟩
      rintro e a3 W3 hp
      cases e with
      | normal =>
        obtain ⟨hk3, hi3⟩ := hp
        have hl3 : W3.heap[w.heap.size + 1]? = some (.loop { rec .ready none with state := .busy }) := by rw [hk3.block _ (by omega) hY1]; exact hlb
        have hk4 : W3.heap[w.heap.size]? = some (.deferred (some [])) := by rw [hk3.block _ (by omega) hY0]; exact hkb
        have hlt3 := (Array.getElem?_eq_some_iff.1 hl3).1
        have hr := run_endRound (P := P) none hl3
        rw [hrec] at hr
        refine ⟨_, _, hr, .inl ⟨rfl, ⟨hI _ _ _ hi3 ((Diff.refl _ _).putObj hZ1 _), ?_, (World.putObj_heap_other (by omega)).trans hk4⟩, ?_⟩⟩
        · rw [World.putObj_heap_same hlt3, hrec]; rfl
        · refine ⟨?_, fun k hk hzk => ?_⟩
          · have e1 := hka.size; have e3 := hk3.size; simp [World.putObj]; omega
          · have hne := (hy0 k hzk).2
            rw [World.putObj_heap_other hne, hk3.block k (by have := hka.size; omega) (hy0 k hzk).1, hWb, World.putObj_heap_other hne]
            exact hka.block k hk (hy0 k hzk).1
      | ret =>
        obtain ⟨hk3, hi3⟩ := hp
        obtain ⟨hr, h2⟩ := leave .ret W3 hk3 hi3
        exact ⟨_, _, hr, .inr ⟨rfl, h2⟩⟩
      | exit id =>
        obtain ⟨hk3, hi3⟩ := hp
        obtain ⟨hr, h2⟩ := leave (.exit id) W3 hk3 hi3
        exact ⟨_, _, hr, .inr ⟨rfl, h2⟩⟩
      | goto t => exact hp.elim
      | panic ch => exact hp.elim
      | outgrown => exact hp.elim
    · rintro e W2 ⟨⟨v, rfl⟩, (⟨hi, hl, hk⟩ | ⟨pre, x, hpre, c, hi, hl, hk⟩)⟩
      · refine ⟨none, _, by have := run_endLoop (P := P) hl (by rw [hrec]; simp); rw [hrec] at this; exact this, ?_⟩
        exact hdone _ (hI _ _ _ hi ((Diff.refl _ _).putObj hZ1 _)) ((World.putObj_heap_other (by omega)).trans hk)
      · refine ⟨some c, _, by have := run_endLoop (P := P) hl (by rw [hrec]; simp); rw [hrec] at this; exact this, ?_⟩
        exact hstop c pre x _ hpre (hIx _ _ _ _ hi ((Diff.refl _ _).putObj hZ1 _)) ((World.putObj_heap_other (by omega)).trans hk)
end Go.Proofs.YtfhnigpjmljhbaaDoor.Or
/- Bits of groups as the walk reckons them. -/
namespace Go.Proofs.YtfhnigpjmljhbaaDoor.Or
open Go.RowKit

theorem ofInt16 (x : Nat) (hx : x < 65536) : (BitVec.ofInt 16 (x : Int)).toNat = x := by
  rw [BitVec.toNat_ofInt]; omega
theorem wrap16 (x : Nat) (hx : x < 65536) : IntKind.u16.wrap (x : Int) = x := by
  simp [IntKind.wrap, IntKind.bits, IntKind.signed]; omega
theorem bits16_and (x y : Nat) (hx : x < 65536) (hy : y < 65536) : bits .and .u16 (x : Int) (y : Int) = ((x &&& y : Nat) : Int) := by
  have h : x &&& y < 65536 := Nat.lt_of_le_of_lt Nat.and_le_left hx
  show IntKind.u16.wrap (((BitVec.ofInt 16 (x : Int)) &&& (BitVec.ofInt 16 (y : Int))).toNat : Int) = _
  rw [BitVec.toNat_and, ofInt16 x hx, ofInt16 y hy, wrap16 _ h]
theorem bits16_or (x y : Nat) (hx : x < 65536) (hy : y < 65536) : bits .or .u16 (x : Int) (y : Int) = ((x ||| y : Nat) : Int) := by
  have h : x ||| y < 65536 := Nat.or_lt_two_pow (n := 16) hx hy
  show IntKind.u16.wrap (((BitVec.ofInt 16 (x : Int)) ||| (BitVec.ofInt 16 (y : Int))).toNat : Int) = _
  rw [BitVec.toNat_or, ofInt16 x hx, ofInt16 y hy, wrap16 _ h]
theorem bits16_andNot (x y : Nat) (hx : x < 65536) (hy : y < 65536) : bits .andNot .u16 (x : Int) (y : Int) = ((x &&& (65535 - y) : Nat) : Int) := by
  have h : x &&& (65535 - y) < 65536 := Nat.lt_of_le_of_lt Nat.and_le_left hx
  show IntKind.u16.wrap (((BitVec.ofInt 16 (x : Int)) &&& ~~~(BitVec.ofInt 16 (y : Int))).toNat : Int) = _
  rw [BitVec.toNat_and, BitVec.toNat_not, ofInt16 x hx, ofInt16 y hy]
  rw [show 2 ^ 16 - 1 - y = 65535 - y by omega, wrap16 _ h]
end Go.Proofs.YtfhnigpjmljhbaaDoor.Or
/- Contracts over texts: letters, digits, words, names; slices.Contains at texts; different texts. -/
namespace Go.Proofs.YtfhnigpjmljhbaaDoor.Or
open Go.RowKit

def bruijnL : List Nat := [0, 1, 28, 2, 29, 14, 24, 3, 30, 22, 20, 15, 25, 17, 4, 8, 31, 27, 13, 23, 21, 19, 16, 7, 26, 12, 18, 6, 11, 5, 10, 9]
/-- What the program's text lays: the words of shapes, and bits' table. -/
structure LaidOk (w : World) : Prop where
  words : ∀ i, i < 8 → w.cell? ⟨0, i, none⟩ = some (.string (mkS (shapeWords.getD i [])))
  tab : ∀ i, i < 32 → w.cell? ⟨1, i, none⟩ = some (.int .u8 (bruijnL.getD i 0))
theorem LaidOk.below {w w' : World} (h : LaidOk w) (hb : Below w.heap.size w w') : LaidOk w' :=
  ⟨fun i hi => (hb.cell (cell_lt (h.words i hi))).trans (h.words i hi), fun i hi => (hb.cell (cell_lt (h.tab i hi))).trans (h.tab i hi)⟩

set_option maxHeartbeats 400000 in
theorem isLetter_any (c : Nat) (w : World) :
    Calls Tryd.prog 119 #[.int .i32 c] w fun e w' => e = .returned (.bool (letN c)) ∧ w = w' := by
  by_cases h1 : 97 ≤ c
  · by_cases h2 : c ≤ 122
    · have hf : Hid (letN c = true) := by show _ = _; simp [letN, h1, h2]
      go_enter Tryd.func119, Tryd.ntmps119
      go_wp2
      go_ret
      exact ⟨ret_bool (by rw [hf.out]; simp; omega), rfl⟩
    · have hf : Hid (letN c = false) := by show _ = _; simp [letN, h2]
      have hb : decide ((c : Int) ≤ 122) = false := decide_eq_false (by omega)
      go_enter Tryd.func119, Tryd.ntmps119
      go_wp2
      go_ret
      exact ⟨ret_bool (by rw [hf.out]), rfl⟩
  · have hf : Hid (letN c = false) := by show _ = _; simp [letN, h1]
    have hb : decide ((97 : Int) ≤ (c : Int)) = false := decide_eq_false (by omega)
    go_enter Tryd.func119, Tryd.ntmps119
    go_wp2
    go_ret
    exact ⟨ret_bool (by rw [hf.out]), rfl⟩
set_option maxHeartbeats 400000 in
theorem isDigit_any (c : Nat) (w : World) :
    Calls Tryd.prog 129 #[.int .i32 c] w fun e w' => e = .returned (.bool (digN c)) ∧ w = w' := by
  by_cases h1 : 48 ≤ c
  · by_cases h2 : c ≤ 57
    · have hf : Hid (digN c = true) := by show _ = _; simp [digN, h1, h2]
      go_enter Tryd.func129, Tryd.ntmps129
      go_wp2
      go_ret
      exact ⟨ret_bool (by rw [hf.out]; simp; omega), rfl⟩
    · have hf : Hid (digN c = false) := by show _ = _; simp [digN, h2]
      have hb : decide ((c : Int) ≤ 57) = false := decide_eq_false (by omega)
      go_enter Tryd.func129, Tryd.ntmps129
      go_wp2
      go_ret
      exact ⟨ret_bool (by rw [hf.out]), rfl⟩
  · have hf : Hid (digN c = false) := by show _ = _; simp [digN, h1]
    have hb : decide ((48 : Int) ≤ (c : Int)) = false := decide_eq_false (by omega)
    go_enter Tryd.func129, Tryd.ntmps129
    go_wp2
    go_ret
    exact ⟨ret_bool (by rw [hf.out]), rfl⟩

theorem rune_nm (l : List UInt8) (k : Nat) (h : k < (mkS l).size) : (letN (Utf8.decode (mkS l) k).1 || digN (Utf8.decode (mkS l) k).1) = nmB (l.getD k 0) ∧ (nmB (l.getD k 0) = true → (Utf8.decode (mkS l) k).2 = 1) := by
  have hg := mkS_get l k h
  by_cases ha : ((mkS l)[k]'h).toNat < 128
  · rw [decode_ascii (mkS l) k h ha, hg]; exact ⟨rfl, fun _ => rfl⟩
  · have hd := decode_high (mkS l) k h (by omega)
    rw [hg] at ha
    have h1 : nmB (l.getD k 0) = false := by
      unfold nmB letN digN
      rw [decide_eq_false (show ¬ (l.getD k 0).toNat ≤ 122 by omega), decide_eq_false (show ¬ (l.getD k 0).toNat ≤ 57 by omega)]; simp
    have h2 : letN (Utf8.decode (mkS l) k).1 = false := by unfold letN; rw [decide_eq_false (show ¬ (Utf8.decode (mkS l) k).1 ≤ 122 by have := hd.1; omega)]; simp
    have h3 : digN (Utf8.decode (mkS l) k).1 = false := by unfold digN; rw [decide_eq_false (show ¬ (Utf8.decode (mkS l) k).1 ≤ 57 by have := hd.1; omega)]; simp
    rw [h1, h2, h3]; exact ⟨rfl, fun h => by cases h⟩

set_option maxRecDepth 100000 in
set_option maxHeartbeats 2000000 in
theorem wordEnd_any (l : List UInt8) (w : World) (hs : l.length ≤ 281474976710656) :
    Calls Tryd.prog 120 #[.string (mkS l)] w fun e w' => e = .returned (.int .i64 (wendF l)) ∧ Below w.heap.size w w' := by
  have hsz : (mkS l).size = l.length := mkS_size l
  have HSZ := Lib.hid hsz
  have hsm : (mkS l).size ≤ 281474976710656 := by omega
  clear hsz
  go_enter Tryd.func120, Tryd.ntmps120
  go_wp2
  go_loopw [] (fun wr => ∃ k : Nat, k ≤ (mkS l).size ∧ Hid (∀ j, j < k → nmB (l.getD j 0) = true) ∧ wr.heap[w.heap.size]? = some (.stringIter (mkS l) k) ∧ Below w.heap.size w wr) (fun wr => (mkS l).size - wr.iterPos w.heap.size)
  case atStart =>
    refine ⟨0, Nat.zero_le _, fun j hj => by omega, ?_, (Below.refl _ _).alloc (Nat.le_refl _) _⟩
    simpa using World.iter_heap w (mkS l) 0
  case round =>
    obtain ⟨k, hk, hpre, hit, hb⟩ := hrel
    by_cases hp : k < (mkS l).size
    · have hnx : ∀ ty, (Instr.next (.pointer (some ⟨w.heap.size, 0, none⟩)) true ty).run Tryd.prog wr = _ := fun ty => Lib.run_next_any_at wr w.heap.size (mkS l) k ty hit hp
      obtain ⟨c, hc⟩ : ∃ c, c = (Utf8.decode (mkS l) k).1 := ⟨_, rfl⟩
      obtain ⟨wd, hwd⟩ : ∃ wd, wd = (Utf8.decode (mkS l) k).2 := ⟨_, rfl⟩
      obtain ⟨r1, r2⟩ := rune_nm l k hp
      rw [← hc] at r1 hnx
      rw [← hwd] at r2 hnx
      have hit2 := Lib.iterAt_heap wr w.heap.size (mkS l) k (k + wd) hit
      have hb2 := Lib.below_iterAt hb (k := w.heap.size) (Nat.le_refl _) (mkS l) (k + wd)
      obtain ⟨W2, hW2⟩ : ∃ W2, W2 = wr.iterAt w.heap.size (mkS l) (k + wd) := ⟨_, rfl⟩
      rw [← hW2] at hit2 hb2
      have hnx2 : ∀ ty, (Instr.next (.pointer (some ⟨w.heap.size, 0, none⟩)) true ty).run Tryd.prog wr = .ok (.tuple #[.bool true, .int .i64 k, .int .i32 c]) W2 := fun ty => by rw [hnx, hW2]
      have HIT := Lib.hid hit; have HIT2 := Lib.hid hit2
      clear hnx hW2 hc hwd hit hit2
      cases hl : letN c with
      | true =>
        rw [hl, Bool.true_or] at r1
        have hw1 := r2 r1.symm
        subst hw1
        have HR := Lib.hid r1
        have CL : Hid (∀ W, Calls Tryd.prog 119 #[.int .i32 c] W fun e w' => e = .returned (.bool true) ∧ W = w') := fun W => by have := isLetter_any c W; rw [hl] at this; exact this
        clear r1 r2 hl
        go_wp2_with (go_at_call 119; refine (CL.out _).mono ?_; rintro e w' ⟨rfl, rfl⟩)
        go_roundw
        case rel => exact ⟨k + 1, by omega, fun j hj => by
            by_cases e : j = k
            · subst e; exact HR.out.symm
            · exact hpre.out j (by omega), HIT2.out, hb2⟩
        case measure => simp only [World.iterPos, HIT.out, HIT2.out]; omega
      | false =>
        rw [hl, Bool.false_or] at r1
        have CL : Hid (∀ W, Calls Tryd.prog 119 #[.int .i32 c] W fun e w' => e = .returned (.bool false) ∧ W = w') := fun W => by have := isLetter_any c W; rw [hl] at this; exact this
        cases hd : digN c with
        | true =>
          rw [hd] at r1
          have hw1 := r2 r1.symm
          subst hw1
          have HR := Lib.hid r1
          have CD : Hid (∀ W, Calls Tryd.prog 129 #[.int .i32 c] W fun e w' => e = .returned (.bool true) ∧ W = w') := fun W => by have := isDigit_any c W; rw [hd] at this; exact this
          clear r1 r2 hl hd
          go_wp2_with (first | (go_at_call 119; refine (CL.out _).mono ?_; rintro e w' ⟨rfl, rfl⟩) | (go_at_call 129; refine (CD.out _).mono ?_; rintro e w' ⟨rfl, rfl⟩))
          go_roundw
          case rel => exact ⟨k + 1, by omega, fun j hj => by
              by_cases e : j = k
              · subst e; exact HR.out.symm
              · exact hpre.out j (by omega), HIT2.out, hb2⟩
          case measure => simp only [World.iterPos, HIT.out, HIT2.out]; omega
        | false =>
          rw [hd] at r1
          have CD : Hid (∀ W, Calls Tryd.prog 129 #[.int .i32 c] W fun e w' => e = .returned (.bool false) ∧ W = w') := fun W => by have := isDigit_any c W; rw [hd] at this; exact this
          have hF : Hid (wendF l = k) := wend_at (by have := HSZ.out; omega) hpre.out r1.symm
          clear r1 r2 hl hd hpre
          go_wp2_with (first | (go_at_call 119; refine (CL.out _).mono ?_; rintro e w' ⟨rfl, rfl⟩) | (go_at_call 129; refine (CD.out _).mono ?_; rintro e w' ⟨rfl, rfl⟩))
          go_ret
          exact ⟨ret_int (by rw [hF.out]), hb2⟩
    · have hnx : ∀ ty, (Instr.next (.pointer (some ⟨w.heap.size, 0, none⟩)) true ty).run Tryd.prog wr = _ := fun ty => Lib.run_next_end_at wr w.heap.size (mkS l) k ty hit hp
      have hF : Hid (wendF l = (mkS l).size) := by
        show _ = _
        rw [HSZ.out]
        exact wend_end fun j hj => hpre.out j (by have := HSZ.out; omega)
      clear hpre
      go_wp2
      go_ret
      exact ⟨ret_int (by rw [hF.out]), hb⟩
end Go.Proofs.YtfhnigpjmljhbaaDoor.Or
