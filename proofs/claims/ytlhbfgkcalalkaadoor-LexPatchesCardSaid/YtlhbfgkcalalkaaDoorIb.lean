/- Facts on scanned tokens, and what Rescan comes to. -/
import Derived.Test.YtlhbfgkcalalkaaDoorIa
set_option linter.unusedVariables false
set_option linter.unusedSimpArgs false
namespace Go.Proofs.YtlhbfgkcalalkaaDoor
open Go.RowKit Go.Shelf Go.Lib

theorem scanGo_places (p : List UInt8) : ∀ (f a : Nat) (acc : List Lx), (∀ y ∈ acc, 0 ≤ y.2.2 ∧ y.2.2 ≤ p.length) → ∀ y ∈ (scanGo p f a acc).1, 0 ≤ y.2.2 ∧ y.2.2 ≤ p.length
  | 0, a, acc, h => h
  | f + 1, a, acc, h => by
    rw [scanGo]
    split
    · rename_i hlt
      split
      · intro y hy; simp at hy
      · split
        · intro y hy; simp at hy
        · apply scanGo_places
          intro y hy
          rw [List.mem_append] at hy
          rcases hy with hy | hy
          · exact h y hy
          · simp at hy; subst hy; simp; omega
    · exact h
theorem scanF_places (l : List UInt8) : ∀ y ∈ (scanF l).1, 0 ≤ y.2.2 ∧ y.2.2 ≤ l.length := by
  unfold scanF
  split
  · intro y hy; simp at hy
  · have := scanGo_places (blankL l) (l.length + 1) (pst isGap (blankL l) 0) [] (by simp)
    rw [blankL_length] at this; exact this
theorem scanGo_len (p : List UInt8) : ∀ (f a : Nat) (acc : List Lx), acc.length ≤ 900 → (scanGo p f a acc).1.length ≤ 900
  | 0, a, acc, h => h
  | f + 1, a, acc, h => by
    rw [scanGo]
    split
    · split
      · simp
      · split
        · simp
        · apply scanGo_len
          simp; omega
    · exact h
theorem scanF_len (l : List UInt8) : (scanF l).1.length ≤ 900 := by
  unfold scanF
  split
  · simp
  · exact scanGo_len _ _ _ _ (by simp)

theorem runF_true (p : Nat → Bool) : ∀ n i j, i ≤ j → j < runF p n i → p j = true
  | 0, i, j, h1, h2 => by rw [runF] at h2; omega
  | n + 1, i, j, h1, h2 => by
    rw [runF] at h2
    split at h2
    · rename_i hp
      by_cases e : i = j
      · subst e; exact hp
      · exact runF_true p n (i + 1) j (by omega) h2
    · omega
/-- What stays at the front and what stays at the end are apart. -/
theorem apart (old now : List Lx) (F T G : Int) (hFT : F ≤ T + G) : headF old now F + tailF old now T G ≤ now.length := by
  have hh := runF_le (headP old now F) (min old.length now.length) 0
  have ht := runF_le (tailP old now T G) (min old.length now.length) 0
  refine Nat.le_of_not_lt fun hlt => ?_
  have h1 := runF_true (headP old now F) (min old.length now.length) 0 (now.length - tailF old now T G) (Nat.zero_le _) (by unfold headF at hlt; unfold tailF at hlt ⊢; omega)
  have h2 := runF_true (tailP old now T G) (min old.length now.length) 0 (tailF old now T G - 1) (Nat.zero_le _) (by unfold headF at hlt; unfold tailF at hlt ⊢; omega)
  simp only [headP, tailP, Bool.and_eq_true, decide_eq_true_eq, beq_iff_eq] at h1 h2
  have e : now.length - 1 - (tailF old now T G - 1) = now.length - tailF old now T G := by unfold headF at hlt; unfold tailF at hlt ⊢; omega
  rw [e] at h2
  have h3 := congrArg (fun y : Lx => y.2.2) h1.2
  have h4 := congrArg (fun y : Lx => y.2.2) h2.2
  simp only at h3 h4
  omega

abbrev Chg := Nat × Nat × List Lx
/-- What Rescan comes to. -/
def rescF (s : List UInt8) (x : Ed) : Chg × Nat × Nat :=
  if (scanF s).2.2 ≠ 0 then ((0, 0, []), (scanF s).2.1, (scanF s).2.2)
  else if isEd s x then
    (if (scanF (splF s x)).2.2 ≠ 0 then ((0, 0, []), (scanF (splF s x)).2.1, (scanF (splF s x)).2.2)
    else
      ((headF (scanF s).1 (scanF (splF s x)).1 x.1, tailF (scanF s).1 (scanF (splF s x)).1 x.2.1 (((splF s x).length : Int) - s.length),
        ((scanF (splF s x)).1.take ((scanF (splF s x)).1.length - tailF (scanF s).1 (scanF (splF s x)).1 x.2.1 (((splF s x).length : Int) - s.length))).drop (headF (scanF s).1 (scanF (splF s x)).1 x.1)), 0, 0))
  else ((0, 0, []), 0, 3)
/-- What Rescan leaves. -/
def RescPost (s : List UInt8) (x : Ed) (w : World) (e : Ending) (w' : World) : Prop :=
  ∃ v, e = .returned (.tuple #[.agg #[.int .i64 (rescF s x).1.1, .int .i64 (rescF s x).1.2.1, v], .int .i64 (rescF s x).2.1, .int .i64 (rescF s x).2.2]) ∧ ReadsLx w' v (rescF s x).1.2.2 ∧ Below w.heap.size w w'
/-- What Scan leaves, its parts named. -/
def ScanP (l : List Lx) (A E : Int) (w : World) (e : Ending) (w' : World) : Prop :=
  ∃ v, e = .returned (.tuple #[v, .int .i64 A, .int .i64 E]) ∧ w'.ownsRow w.heap.size 36 3 v l.length (rowCells l) ∧ Below w.heap.size w w'
theorem scanP (s : List UInt8) (w : World) (hs : s.length ≤ 281474976710656) (he : ErrOk w) : Calls Tryd.prog 10 #[.string (mkS s)] w (ScanP (scanF s).1 (scanF s).2.1 (scanF s).2.2 w) := scan_any s w hs he

/-- The world in which Rescan begins. -/
def rescW (w : World) (x : Ed) : World := (w.alloc (.cells #[.int .i64 x.1, .int .i64 x.2.1, .string (mkS x.2.2)] 24)).alloc (.cells #[.int .i64 0, .int .i64 0, .slice none 0 0] 26)
theorem rescW_below (w : World) (x : Ed) : Below w.heap.size w (rescW w x) := ((Below.refl _ _).alloc (Nat.le_refl _) _).alloc (by simp) _
theorem rescW_cells (w : World) (x : Ed) (V : World) (h : Below (rescW w x).heap.size (rescW w x) V) :
    V.cell? ⟨w.heap.size + 1, 0, none⟩ = some (.int .i64 0) ∧ V.cell? ⟨w.heap.size + 1, 1, none⟩ = some (.int .i64 0) ∧ V.cell? ⟨w.heap.size + 1, 2, none⟩ = some (.slice none 0 0) ∧
    V.frozen? ⟨w.heap.size + 1, 0, none⟩ = false ∧ V.frozen? ⟨w.heap.size + 1, 1, none⟩ = false ∧ V.frozen? ⟨w.heap.size + 1, 2, none⟩ = false ∧ w.heap.size + 1 < V.heap.size ∧
    V.cell? ⟨w.heap.size, 0, none⟩ = some (.int .i64 x.1) ∧ V.cell? ⟨w.heap.size, 1, none⟩ = some (.int .i64 x.2.1) ∧ V.cell? ⟨w.heap.size, 2, none⟩ = some (.string (mkS x.2.2)) ∧ Below w.heap.size w V := by
  have hsz := h.size
  have z : (rescW w x).heap.size = w.heap.size + 2 := by simp [rescW]
  refine ⟨?_, ?_, ?_, ?_, ?_, ?_, by omega, ?_, ?_, ?_, (rescW_below w x).trans (h.mono (by omega))⟩
  · rw [h.cell (by rw [z]; simp)]; simp [rescW, go_sem]
  · rw [h.cell (by rw [z]; simp)]; simp [rescW, go_sem]
  · rw [h.cell (by rw [z]; simp)]; simp [rescW, go_sem]
  · rw [h.frozen (by rw [z]; simp)]; simp [rescW, go_sem]
  · rw [h.frozen (by rw [z]; simp)]; simp [rescW, go_sem]
  · rw [h.frozen (by rw [z]; simp)]; simp [rescW, go_sem]
  · rw [h.cell (by rw [z]; simp)]; simp [rescW, go_sem]
  · rw [h.cell (by rw [z]; simp)]; simp [rescW, go_sem]
  · rw [h.cell (by rw [z]; simp)]; simp [rescW, go_sem]

set_option maxRecDepth 100000 in
set_option maxHeartbeats 2000000 in
theorem resc_e1 (s : List UInt8) (x : Ed) (w : World) (hs : s.length ≤ 140737488355328) (he : ErrOk w) (h : (scanF s).2.2 ≠ 0) :
    Calls Tryd.prog 13 #[.string (mkS s), edV x] w (RescPost s x w) := by
  have CS : Hid (∀ W, Below w.heap.size w W → Calls Tryd.prog 10 #[.string (mkS s)] W (ScanP (scanF s).1 (scanF s).2.1 (scanF s).2.2 W)) := fun W hW => scanP s W (by omega) (he.below hW)
  obtain ⟨A, hA⟩ : ∃ A : Int, A = (scanF s).2.1 := ⟨_, rfl⟩
  obtain ⟨E, hE⟩ : ∃ E : Int, E = (scanF s).2.2 := ⟨_, rfl⟩
  rw [← hA, ← hE] at CS
  have hb0 : (E != 0) = true := by rw [bne_iff_ne, hE]; omega
  have HR : Hid (rescF s x = ((0, 0, []), (scanF s).2.1, (scanF s).2.2)) := by show _ = _; unfold rescF; rw [if_pos h]
  have HA := Lib.hid hA; have HE := Lib.hid hE
  have HC := Lib.hid (rescW_cells w x)
  have HB := Lib.hid (rescW_below w x)
  unfold edV
  clear hA hE he h
  go_enter Tryd.func13, Tryd.ntmps13
  go_wp2_with fail
  refine (CS.out _ HB.out).mono ?_
  rintro e w1 ⟨v, rfl, hown, hb⟩
  obtain ⟨r0, r1, r2, q0, q1, q2, hz, k0, k1, k2, hfin⟩ := HC.out w1 hb
  clear hown hb
  go_wp2
  refine bodyPost_ret (v := .tuple #[.agg #[.int .i64 0, .int .i64 0, .slice none 0 0], .int .i64 A, .int .i64 E]) (by simp [results, Tryd.results13, go_sem, r0, r1, r2, hz]) rfl ⟨.slice none 0 0, ?_, ?_, ?_⟩
  · rw [HR.out, HA.out, HE.out]; rfl
  · rw [HR.out]; exact ⟨none, 0, rfl, by simp, .inl rfl⟩
  · repeat (first | refine Below.setCell ?_ (by simp) _ | refine Below.alloc ?_ hfin.size _)
    exact hfin

set_option maxRecDepth 100000 in
set_option maxHeartbeats 2000000 in
theorem resc_range (s : List UInt8) (x : Ed) (w : World) (hs : s.length ≤ 140737488355328) (hput : x.2.2.length ≤ 140737488355328) (he : ErrOk w) (h : (scanF s).2.2 = 0) (h2 : isEd s x = false) :
    Calls Tryd.prog 13 #[.string (mkS s), edV x] w (RescPost s x w) := by
  have CS : Hid (∀ W, Below w.heap.size w W → Calls Tryd.prog 10 #[.string (mkS s)] W (ScanP (scanF s).1 (scanF s).2.1 0 W)) := fun W hW => by
    have := scanP s W (by omega) (he.below hW); rw [h] at this; exact this
  have CP : Hid (∀ W, Calls Tryd.prog 34 #[.string (mkS s), .agg #[.int .i64 x.1, .int .i64 x.2.1, .string (mkS x.2.2)]] W fun e w' => e = .returned (.tuple #[.agg #[.int .i64 0, .int .i64 0, .string ⟨#[]⟩, .string ⟨#[]⟩, .string ⟨#[]⟩], .bool false]) ∧ Below W.heap.size W w') := fun W => by
    have := splice_any s x W hs hput
    unfold splOut at this
    rw [h2] at this; exact this
  obtain ⟨A, hA⟩ : ∃ A : Int, A = (scanF s).2.1 := ⟨_, rfl⟩
  rw [← hA] at CS
  have HR : Hid (rescF s x = ((0, 0, []), 0, 3)) := by show _ = _; unfold rescF; rw [if_neg (by omega), if_neg (by rw [h2]; decide)]
  have HC := Lib.hid (rescW_cells w x)
  have HB := Lib.hid (rescW_below w x)
  unfold edV
  clear hA he h h2 hput
  go_enter Tryd.func13, Tryd.ntmps13
  go_wp2_with fail
  refine (CS.out _ HB.out).mono ?_
  rintro e w1 ⟨v, rfl, hown, hb⟩
  obtain ⟨r0, r1, r2, q0, q1, q2, hz, k0, k1, k2, hfin⟩ := HC.out w1 hb
  have Hb := Lib.hid hb
  clear hown hb r0 r1 r2 q0 q1 q2
  go_wp2_with fail
  refine (CP.out _).mono ?_
  rintro e w2 ⟨rfl, hb2⟩
  obtain ⟨r0, r1, r2, q0, q1, q2, hz2, k0', k1', k2', hfin2⟩ := HC.out w2 (Hb.out.trans (hb2.mono Hb.out.size))
  clear hb2 k0 k1 k2 k0' k1' k2' hz
  go_wp2
  refine bodyPost_ret (v := .tuple #[.agg #[.int .i64 0, .int .i64 0, .slice none 0 0], .int .i64 0, .int .i64 3]) (by simp [results, Tryd.results13, go_sem, r0, r1, r2, hz2]) rfl ⟨.slice none 0 0, ?_, ?_, ?_⟩
  · rw [HR.out]; rfl
  · rw [HR.out]; exact ⟨none, 0, rfl, by simp, .inl rfl⟩
  · repeat (first | refine Below.setCell ?_ (by simp) _ | refine Below.alloc ?_ (by first | exact hfin2.size | (simp; have := hfin2.size; omega)) _)
    exact hfin2
end Go.Proofs.YtlhbfgkcalalkaaDoor
