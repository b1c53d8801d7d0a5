/- The reader of order: what begins a text, skip, read, word, ended. -/
import Derived.Test.YtfhnigpjmljhbaaDoorOrDb
set_option linter.unusedVariables false
set_option linter.unusedSimpArgs false
namespace Go.Proofs.YtfhnigpjmljhbaaDoor.Or
open Go.RowKit Go.Shelf

theorem ext_take (r : List UInt8) (o : Nat) : (mkS r).extract 0 o = mkS (r.take o) := by
  rw [← mkS_self ((mkS r).extract 0 o), Lib.extract_data, mkS_list]; simp
theorem ext_drop (r : List UInt8) (o : Nat) : (mkS r).extract o (mkS r).size = mkS (r.drop o) := by
  rw [← mkS_self ((mkS r).extract o (mkS r).size), Lib.extract_data, mkS_list, mkS_size, List.take_of_length_le (by simp)]
theorem ext_drop' (r : List UInt8) (o : Nat) : (mkS r).extract o r.length = mkS (r.drop o) := by
  have := ext_drop r o
  rwa [mkS_size] at this

/-- Whether a text begins with another one; what is left of it then. -/
def prefB (tx rest : List UInt8) : Bool := rest.take tx.length == tx
def cutF (tx rest : List UInt8) : List UInt8 := if prefB tx rest then rest.drop tx.length else rest
theorem prefB_len {tx rest : List UInt8} (h : prefB tx rest = true) : tx.length ≤ rest.length := by
  have : rest.take tx.length = tx := by simpa [prefB] using h
  have h2 := congrArg List.length this
  rw [List.length_take] at h2; omega

set_option maxHeartbeats 1000000 in
theorem hasPrefix_any (s p : List UInt8) (w : World) :
    Calls Tryd.prog 133 #[.string (mkS s), .string (mkS p)] w fun e w' => e = .returned (.bool (prefB p s)) ∧ w' = w := by
  have z1 := mkS_size s; have z2 := mkS_size p
  by_cases h : p.length ≤ s.length
  · have h1 : (mkS p).size ≤ (mkS s).size := by omega
    have h2 : ((mkS p).size : Int) ≤ ((mkS s).size : Int) := by omega
    have hx : ((mkS s).extract 0 (mkS p).size).toList = s.take p.length := by rw [z2, ext_take, mkS_toList]
    have HX := Lib.hid hx
    clear hx z1 z2 h
    go_enter Tryd.func133, Tryd.ntmps133
    go_wp2
    go_ret
    refine ⟨?_, rfl⟩
    show Ending.returned (Value.bool (((mkS s).extract 0 (mkS p).size).toList == (mkS p).toList)) = _
    rw [HX.out, mkS_toList]; rfl
  · have h1 : ¬ (mkS p).size ≤ (mkS s).size := by omega
    have h2 : ¬ ((mkS p).size : Int) ≤ ((mkS s).size : Int) := by omega
    have hp : prefB p s = false := by
      cases e : prefB p s with
      | false => rfl
      | true => exact absurd (prefB_len e) h
    rw [hp]
    clear z1 z2 h hp
    go_enter Tryd.func133, Tryd.ntmps133
    go_wp2
    go_ret
    exact ⟨rfl, rfl⟩
set_option maxHeartbeats 1000000 in
theorem cutPrefix0_any (s p : List UInt8) (w : World) :
    Calls Tryd.prog 130 #[.string (mkS s), .string (mkS p)] w fun e w' => e = .returned (.tuple #[.string (mkS (cutF p s)), .bool (prefB p s)]) ∧ w' = w := by
  have C := Lib.hid (hasPrefix_any s p)
  cases hp : prefB p s with
  | false =>
    have hc : cutF p s = s := by unfold cutF; rw [hp]; rfl
    rw [hc]
    rw [hp] at C
    clear hc hp
    go_enter Tryd.func130, Tryd.ntmps130
    go_wp2_with fail
    refine (C.out _).mono ?_
    rintro e w' ⟨rfl, rfl⟩
    go_wp2
    go_ret2
    exact ⟨rfl, rfl⟩
  | true =>
    have hl := prefB_len hp
    have hc : cutF p s = s.drop p.length := by unfold cutF; rw [hp]; rfl
    have z1 := mkS_size s; have z2 := mkS_size p
    have h1 : (mkS p).size ≤ (mkS s).size := by omega
    have h2 : ((mkS p).size : Int) ≤ ((mkS s).size : Int) := by omega
    have hx : (mkS s).extract (mkS p).size (mkS s).size = mkS (s.drop p.length) := by rw [z2]; exact ext_drop s p.length
    have HX := Lib.hid hx
    rw [hc]
    rw [hp] at C
    clear hx z1 z2 hl hc hp
    go_enter Tryd.func130, Tryd.ntmps130
    go_wp2_with fail
    refine (C.out _).mono ?_
    rintro e w' ⟨rfl, rfl⟩
    go_wp2
    go_ret2
    refine ⟨?_, rfl⟩
    rw [← HX.out]; rfl
theorem cutPrefix_any (s p : List UInt8) (w : World) :
    Calls Tryd.prog 124 #[.string (mkS s), .string (mkS p)] w fun e w' => e = .returned (.tuple #[.string (mkS (cutF p s)), .bool (prefB p s)]) ∧ w' = w := by
  have C := Lib.hid (cutPrefix0_any s p)
  go_enter Tryd.func124, Tryd.ntmps124
  go_wp2_with fail
  refine (C.out _).mono ?_
  rintro e w' ⟨rfl, rfl⟩
  go_wp2
  go_ret2
  exact ⟨rfl, rfl⟩

/-- A reader in memory: what is left of its text, and whether it is lost. -/
def Rdr (b : Nat) (rest : List UInt8) (lost : Bool) (w : World) : Prop := w.heap[b]? = some (.cells #[.string (mkS rest), .bool lost] 89 (0, 0))
theorem Rdr.below {b : Nat} {rest : List UInt8} {lost : Bool} {w w' : World} (h : Rdr b rest lost w) (hb : Below w.heap.size w w') : Rdr b rest lost w' := heap_below hb h
theorem Rdr.cells {b : Nat} {rest : List UInt8} {lost : Bool} {w : World} (h : Rdr b rest lost w) : (w.cell? ⟨b, 0, none⟩ = some (.string (mkS rest)) ∧ w.cell? ⟨b, 1, none⟩ = some (.bool lost)) ∧ w.frozen? ⟨b, 0, none⟩ = false ∧ w.frozen? ⟨b, 1, none⟩ = false := by
  have y0 := Go.Joins.cell_of_block h 0
  have y1 := Go.Joins.cell_of_block h 1
  simp only [List.getElem?_toArray, List.getElem?_cons_zero, List.getElem?_cons_succ] at y0 y1
  exact ⟨⟨y0, y1⟩, Go.Joins.unfrozen_of_block h 0, Go.Joins.unfrozen_of_block h 1⟩
theorem Rdr.set0 {b : Nat} {rest r : List UInt8} {lost : Bool} {w : World} (h : Rdr b rest lost w) : Rdr b r lost (w.setCell ⟨b, 0, none⟩ (.string (mkS r))) := by
  unfold Rdr; rw [Go.Joins.block_setCell h]; rfl
theorem Rdr.set1 {b : Nat} {rest : List UInt8} {lost l : Bool} {w : World} (h : Rdr b rest lost w) : Rdr b rest l (w.setCell ⟨b, 1, none⟩ (.bool l)) := by
  unfold Rdr; rw [Go.Joins.block_setCell h]; rfl
/-- What a reader's method leaves: the reader, and all else but what was made. -/
structure RdSt (b : Nat) (rest : List UInt8) (lost : Bool) (W w : World) : Prop where
  r : Rdr b rest lost w
  d : Diff (fun k => k = b) W w

set_option maxHeartbeats 1000000 in
theorem skip_any (b : Nat) (rest tx : List UInt8) (lost : Bool) (w : World) (hr : Rdr b rest lost w) :
    Calls Tryd.prog 100 #[.pointer (some ⟨b, 0, none⟩), .string (mkS tx)] w fun e w' => e = .returned (.bool (prefB tx rest)) ∧ RdSt b (cutF tx rest) lost w w' := by
  have C := Lib.hid (cutPrefix_any rest tx)
  obtain ⟨⟨c0, c1⟩, f0, f1⟩ := hr.cells
  have HR := Lib.hid hr
  clear hr
  cases hp : prefB tx rest with
  | false =>
    have hc : cutF tx rest = rest := by unfold cutF; rw [hp]; rfl
    rw [hc] at C ⊢
    rw [hp] at C
    clear hc hp
    go_enter Tryd.func100, Tryd.ntmps100
    go_wp2_with fail
    refine (C.out _).mono ?_
    rintro e w' ⟨rfl, rfl⟩
    go_wp2
    go_ret
    exact ⟨rfl, HR.out, Diff.refl _ _⟩
  | true =>
    obtain ⟨x, hx⟩ : ∃ x, x = cutF tx rest := ⟨_, rfl⟩
    rw [← hx] at C ⊢
    rw [hp] at C
    clear hx hp
    go_enter Tryd.func100, Tryd.ntmps100
    go_wp2_with fail
    refine (C.out _).mono ?_
    rintro e w' ⟨rfl, rfl⟩
    go_wp2
    go_ret
    exact ⟨rfl, HR.out.set0, Diff.setCell (Z := fun k => k = b) (p := ⟨b, 0, none⟩) (Diff.refl _ _) rfl _⟩
set_option maxHeartbeats 1000000 in
theorem read_any (b : Nat) (rest tx : List UInt8) (lost : Bool) (w : World) (hr : Rdr b rest lost w) :
    Calls Tryd.prog 98 #[.pointer (some ⟨b, 0, none⟩), .string (mkS tx)] w fun e w' => e = .returned (.tuple #[]) ∧ RdSt b (cutF tx rest) (lost || !prefB tx rest) w w' := by
  have C := Lib.hid (skip_any b rest tx lost w hr)
  obtain ⟨y, hy⟩ : ∃ y, y = prefB tx rest := ⟨_, rfl⟩
  obtain ⟨x, hx⟩ : ∃ x, x = cutF tx rest := ⟨_, rfl⟩
  rw [← hy, ← hx] at C
  rw [← hy, ← hx]
  clear hy hx hr
  go_enter Tryd.func98, Tryd.ntmps98
  go_wp2_with fail
  refine C.out.mono ?_
  rintro e w1 ⟨rfl, h1⟩
  have H1 := Lib.hid h1
  obtain ⟨⟨c0, c1⟩, f0, f1⟩ := h1.r.cells
  clear h1 C
  cases y with
  | true =>
    go_wp2
    first | (refine bodyPost_end (results_none rfl _ _ _) rfl ?_) | (refine bodyPost_ret (results_none rfl _ _ _) rfl ?_)
    exact ⟨rfl, by rw [show (lost || !true) = lost by simp]; exact H1.out⟩
  | false =>
    go_wp2
    first | (refine bodyPost_end (results_none rfl _ _ _) rfl ?_) | (refine bodyPost_ret (results_none rfl _ _ _) rfl ?_)
    exact ⟨rfl, by rw [show (lost || !false) = true by simp]; exact H1.out.r.set1, Diff.setCell (Z := fun k => k = b) (p := ⟨b, 1, none⟩) H1.out.d rfl _⟩
/-- A word, and what is left behind it. -/
def wordF (rest : List UInt8) : List UInt8 := rest.take (wendF rest)
def leftF (rest : List UInt8) : List UInt8 := rest.drop (wendF rest)
set_option maxHeartbeats 1000000 in
theorem word_any (b : Nat) (rest : List UInt8) (lost : Bool) (w : World) (hr : Rdr b rest lost w) (hs : rest.length ≤ 281474976710656) :
    Calls Tryd.prog 99 #[.pointer (some ⟨b, 0, none⟩)] w fun e w' => e = .returned (.string (mkS (wordF rest))) ∧ RdSt b (leftF rest) lost w w' := by
  have C := Lib.hid (wordEnd_any rest w hs)
  obtain ⟨⟨c0, c1⟩, f0, f1⟩ := hr.cells
  have HR := Lib.hid hr
  have hle := wend_le rest
  have hz := mkS_size rest
  have h1 : (mkS rest).extract 0 (wendF rest) = mkS (wordF rest) := ext_take _ _
  have h2 : (mkS rest).extract (wendF rest) (mkS rest).size = mkS (leftF rest) := ext_drop _ _
  obtain ⟨n, hn⟩ : ∃ n, n = wendF rest := ⟨_, rfl⟩
  rw [← hn] at C h1 h2 hle
  have hle2 : (n : Int) ≤ ((mkS rest).size : Int) := by omega
  have hle3 : n ≤ (mkS rest).size := by omega
  have X1 := Lib.hid h1; have X2 := Lib.hid h2
  clear hr hs hle hz h1 h2 hn
  go_enter Tryd.func99, Tryd.ntmps99
  go_wp2_with fail
  refine C.out.mono ?_
  rintro e w1 ⟨rfl, hb⟩
  have HB := Lib.hid hb
  have H1 := Lib.hid (HR.out.below hb)
  clear c0 c1 f0 f1 C
  obtain ⟨⟨c0, c1⟩, f0, f1⟩ := H1.out.cells
  clear hb
  go_wp2
  go_ret
  refine ⟨by rw [← X1.out]; rfl, ?_, ?_⟩
  · rw [X2.out]; exact H1.out.set0
  · exact Diff.setCell (Z := fun k => k = b) (p := ⟨b, 0, none⟩) (Below.diff HB.out _) rfl _
theorem ended_any (b : Nat) (rest : List UInt8) (lost : Bool) (w : World) (hr : Rdr b rest lost w) :
    Calls Tryd.prog 61 #[.pointer (some ⟨b, 0, none⟩)] w fun e w' => e = .returned (.bool (!lost && rest.isEmpty)) ∧ w' = w := by
  obtain ⟨⟨c0, c1⟩, f0, f1⟩ := hr.cells
  have hz : (mkS rest).toList.isEmpty = rest.isEmpty := by rw [mkS_toList]
  have HZ := Lib.hid hz
  clear hr hz
  cases lost with
  | true =>
    go_enter Tryd.func61, Tryd.ntmps61
    go_wp2
    go_ret
    exact ⟨rfl, rfl⟩
  | false =>
    go_enter Tryd.func61, Tryd.ntmps61
    go_wp2
    go_ret
    refine ⟨?_, rfl⟩
    rw [← HZ.out]
    first | rfl | simp
end Go.Proofs.YtfhnigpjmljhbaaDoor.Or
