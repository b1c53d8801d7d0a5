/- The contracts of splice, do, growth and behind. -/
import Derived.Test.YtlhbfgkcalalkaaDoorDc
set_option linter.unusedVariables false
set_option linter.unusedSimpArgs false
namespace Go.Proofs.YtlhbfgkcalalkaaDoor
open Go.RowKit

/-- An edit with the texts before and after it. -/
def doneV (x : Ed) (s t : List UInt8) : Value := .agg #[.int .i64 x.1, .int .i64 x.2.1, .string (mkS x.2.2), .string (mkS s), .string (mkS t)]
def noDone : Value := .agg #[.int .i64 0, .int .i64 0, .string ⟨#[]⟩, .string ⟨#[]⟩, .string ⟨#[]⟩]
def isEd (s : List UInt8) (x : Ed) : Bool := decide (0 ≤ x.1) && decide (x.1 ≤ x.2.1) && decide (x.2.1 ≤ s.length)
def splF (s : List UInt8) (x : Ed) : List UInt8 := s.take x.1.toNat ++ x.2.2 ++ s.drop x.2.1.toNat

theorem splice_bytes (s put : List UInt8) (F T : Nat) : (mkS s).extract 0 F ++ mkS put ++ (mkS s).extract T (mkS s).size = mkS (s.take F ++ put ++ s.drop T) := by
  rw [take_mkS', drop_mkS']
  apply ByteArray.ext
  simp [mkS]
where
  take_mkS' (r : List UInt8) (o : Nat) : (mkS r).extract 0 o = mkS (r.take o) := by
    rw [← mkS_self ((mkS r).extract 0 o), Lib.extract_data, mkS_list]; simp
  drop_mkS' (r : List UInt8) (o : Nat) : (mkS r).extract o (mkS r).size = mkS (r.drop o) := by
    rw [← mkS_self ((mkS r).extract o (mkS r).size), Lib.extract_to_end, mkS_list]

set_option maxRecDepth 100000 in
set_option maxHeartbeats 2000000 in
theorem splice_ok (s put : List UInt8) (F T : Nat) (w : World) (hs : s.length ≤ 140737488355328) (hput : put.length ≤ 140737488355328) (h1 : F ≤ T) (h2 : T ≤ s.length) :
    Calls Tryd.prog 34 #[.string (mkS s), .agg #[.int .i64 F, .int .i64 T, .string (mkS put)]] w fun e w' => e = .returned (.tuple #[doneV (F, T, put) s (s.take F ++ put ++ s.drop T), .bool true]) ∧ Below w.heap.size w w' := by
  have hsz : (mkS s).size = s.length := mkS_size s
  have hpz : (mkS put).size = put.length := mkS_size put
  have h2' : T ≤ (mkS s).size := by omega
  have h3 : (mkS s).size ≤ 140737488355328 := by omega
  have h4 : (mkS put).size ≤ 140737488355328 := by omega
  have HX := Lib.hid (splice_bytes s put F T)
  clear hsz hpz
  have b1 : decide ((F : Int) < 0) = false := decide_eq_false (by omega)
  have b2 : decide ((T : Int) < (F : Int)) = false := decide_eq_false (by omega)
  have b3 : decide (((mkS s).size : Int) < (T : Int)) = false := decide_eq_false (by omega)
  go_enter Tryd.func34, Tryd.ntmps34
  go_wp2
  go_region
  go_wp2
  refine bodyPost_ret (v := .tuple #[.agg #[.int .i64 F, .int .i64 T, .string (mkS put), .string (mkS s), .string ((mkS s).extract 0 F ++ mkS put ++ (mkS s).extract T (mkS s).size)], .bool true]) (by simp [results, Tryd.results34, go_sem]) rfl ⟨?_, ?_⟩
  · rw [HX.out]; rfl
  · exact (((Below.refl _ _).alloc (Nat.le_refl _) _).alloc (by simp) _).drew

set_option maxRecDepth 100000 in
set_option maxHeartbeats 2000000 in
theorem splice_no (s put : List UInt8) (F T : Int) (w : World) (hs : s.length ≤ 140737488355328) (h : isEd s (F, T, put) = false) :
    Calls Tryd.prog 34 #[.string (mkS s), .agg #[.int .i64 F, .int .i64 T, .string (mkS put)]] w fun e w' => e = .returned (.tuple #[noDone, .bool false]) ∧ Below w.heap.size w w' := by
  have hsz : (mkS s).size = s.length := mkS_size s
  have fin : Below w.heap.size w ((w.alloc (Obj.cells #[Value.int IntKind.i64 F, Value.int IntKind.i64 T, Value.string (mkS put)] 24)).alloc
      (Obj.cells #[Value.int IntKind.i64 0, Value.int IntKind.i64 0, Value.string { data := #[] }, Value.string { data := #[] }, Value.string { data := #[] }] 78)) := ((Below.refl _ _).alloc (Nat.le_refl _) _).alloc (by simp) _
  by_cases c1 : F < 0
  · clear h hsz
    go_enter Tryd.func34, Tryd.ntmps34
    go_wp2
    exact bodyPost_ret (v := .tuple #[noDone, .bool false]) (by simp [results, Tryd.results34, go_sem, noDone]) rfl ⟨rfl, fin⟩
  · by_cases c2 : T < F
    · have b1 : decide (F < 0) = false := decide_eq_false c1
      have b2 : decide (T < F) = true := decide_eq_true c2
      clear h hsz c1 c2
      go_enter Tryd.func34, Tryd.ntmps34
      go_wp2
      all_goals exact bodyPost_ret (v := .tuple #[noDone, .bool false]) (by simp [results, Tryd.results34, go_sem, noDone]) rfl ⟨rfl, fin⟩
    · have c3 : ((mkS s).size : Int) < T := by
        simp only [isEd] at h
        rcases Int.lt_or_le (s.length : Int) T with h3 | h3
        · rw [hsz]; exact h3
        · rw [decide_eq_true (by omega), decide_eq_true (by omega), decide_eq_true h3] at h; simp at h
      have b1 : decide (F < 0) = false := decide_eq_false c1
      have b2 : decide (T < F) = false := decide_eq_false c2
      have b3 : decide (((mkS s).size : Int) < T) = true := decide_eq_true c3
      clear h hsz c1 c2 c3
      go_enter Tryd.func34, Tryd.ntmps34
      go_wp2
      all_goals exact bodyPost_ret (v := .tuple #[noDone, .bool false]) (by simp [results, Tryd.results34, go_sem, noDone]) rfl ⟨rfl, fin⟩

theorem isEd_nat {s : List UInt8} {x : Ed} (h : isEd s x = true) : ∃ F T : Nat, x = ((F : Int), (T : Int), x.2.2) ∧ F ≤ T ∧ T ≤ s.length := by
  obtain ⟨F, T, put⟩ := x
  simp only [isEd, Bool.and_eq_true, decide_eq_true_eq] at h
  exact ⟨F.toNat, T.toNat, by simp; omega, by omega, by omega⟩

/-- What splice comes to. -/
def splOut (s : List UInt8) (x : Ed) : Value := if isEd s x then doneV x s (splF s x) else noDone
theorem splice_any (s : List UInt8) (x : Ed) (w : World) (hs : s.length ≤ 140737488355328) (hput : x.2.2.length ≤ 140737488355328) :
    Calls Tryd.prog 34 #[.string (mkS s), edV x] w fun e w' => e = .returned (.tuple #[splOut s x, .bool (isEd s x)]) ∧ Below w.heap.size w w' := by
  cases h : isEd s x with
  | true =>
    obtain ⟨F, T, hx, h1, h2⟩ := isEd_nat h
    obtain ⟨F', T', put⟩ := x
    simp only [Prod.mk.injEq] at hx
    obtain ⟨rfl, rfl, _⟩ := hx
    have e : splOut s ((F : Int), (T : Int), put) = doneV (F, T, put) s (s.take F ++ put ++ s.drop T) := by unfold splOut; rw [if_pos h]; rfl
    rw [e]
    exact splice_ok s put F T w hs hput h1 h2
  | false =>
    obtain ⟨F', T', put⟩ := x
    have e : splOut s (F', T', put) = noDone := by unfold splOut; rw [if_neg (by rw [h]; decide)]
    rw [e]
    exact splice_no s put F' T' w hs h

/-- The error of an edit of a text, and of the text behind it. -/
def doE (s : List UInt8) (x : Ed) : Nat := if chkE s ≠ 0 then chkE s else if isEd s x then chkE (splF s x) else 3

theorem do_cells (w w1 : World) (o : Obj) (T : TypeId) (hb1 : Below ((w.alloc o).alloc (.cells #[.int .i64 0, .int .i64 0, .string ⟨#[]⟩, .string ⟨#[]⟩, .string ⟨#[]⟩] T)).heap.size ((w.alloc o).alloc (.cells #[.int .i64 0, .int .i64 0, .string ⟨#[]⟩, .string ⟨#[]⟩, .string ⟨#[]⟩] T)) w1) :
    (w1.cell? ⟨w.heap.size + 1, 0, none⟩ = some (.int .i64 0) ∧ w1.cell? ⟨w.heap.size + 1, 1, none⟩ = some (.int .i64 0) ∧ w1.cell? ⟨w.heap.size + 1, 2, none⟩ = some (.string ⟨#[]⟩) ∧ w1.cell? ⟨w.heap.size + 1, 3, none⟩ = some (.string ⟨#[]⟩) ∧ w1.cell? ⟨w.heap.size + 1, 4, none⟩ = some (.string ⟨#[]⟩)) ∧
    (w1.frozen? ⟨w.heap.size + 1, 0, none⟩ = false ∧ w1.frozen? ⟨w.heap.size + 1, 1, none⟩ = false ∧ w1.frozen? ⟨w.heap.size + 1, 2, none⟩ = false ∧ w1.frozen? ⟨w.heap.size + 1, 3, none⟩ = false ∧ w1.frozen? ⟨w.heap.size + 1, 4, none⟩ = false) ∧
    w.heap.size + 1 < w1.heap.size ∧ Below w.heap.size w w1 := by
  have hs := hb1.size
  have hc : ∀ i, w1.cell? ⟨w.heap.size + 1, i, none⟩ = ((w.alloc o).alloc (.cells #[.int .i64 0, .int .i64 0, .string ⟨#[]⟩, .string ⟨#[]⟩, .string ⟨#[]⟩] T)).cell? ⟨w.heap.size + 1, i, none⟩ := fun i => hb1.cell (by simp)
  have hf : ∀ i, w1.frozen? ⟨w.heap.size + 1, i, none⟩ = ((w.alloc o).alloc (.cells #[.int .i64 0, .int .i64 0, .string ⟨#[]⟩, .string ⟨#[]⟩, .string ⟨#[]⟩] T)).frozen? ⟨w.heap.size + 1, i, none⟩ := fun i => hb1.frozen (by simp)
  refine ⟨⟨?_, ?_, ?_, ?_, ?_⟩, ⟨?_, ?_, ?_, ?_, ?_⟩, ?_, ?_⟩
  · rw [hc, World.cell?_alloc_at _ _ _ _ (by simp)]; rfl
  · rw [hc, World.cell?_alloc_at _ _ _ _ (by simp)]; rfl
  · rw [hc, World.cell?_alloc_at _ _ _ _ (by simp)]; rfl
  · rw [hc, World.cell?_alloc_at _ _ _ _ (by simp)]; rfl
  · rw [hc, World.cell?_alloc_at _ _ _ _ (by simp)]; rfl
  · rw [hf]; simp [go_sem]
  · rw [hf]; simp [go_sem]
  · rw [hf]; simp [go_sem]
  · rw [hf]; simp [go_sem]
  · rw [hf]; simp [go_sem]
  · simp at hs; omega
  · exact (((Below.refl _ _).alloc (Nat.le_refl _) _).alloc (by simp) _).trans (hb1.mono (by simp; omega))

/-- What do comes to. -/
def doOut (s : List UInt8) (x : Ed) : Value := if doE s x = 0 then doneV x s (splF s x) else noDone
theorem doOut_no {s : List UInt8} {x : Ed} (h : doE s x ≠ 0) : doOut s x = noDone := by unfold doOut; rw [if_neg h]
theorem doOut_yes {s : List UInt8} {x : Ed} (h : doE s x = 0) : doOut s x = doneV x s (splF s x) := by unfold doOut; rw [if_pos h]

end Go.Proofs.YtlhbfgkcalalkaaDoor
