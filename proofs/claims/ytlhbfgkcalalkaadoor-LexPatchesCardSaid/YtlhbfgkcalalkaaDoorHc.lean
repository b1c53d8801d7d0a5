/- The contracts of head and tail. -/
import Derived.Test.YtlhbfgkcalalkaaDoorHb
import Derived.Test.YtlhbfgkcalalkaaDoorDc
set_option linter.unusedVariables false
set_option linter.unusedSimpArgs false
namespace Go.Proofs.YtlhbfgkcalalkaaDoor
open Go.RowKit Go.Shelf

def headF (old now : List Lx) (F : Int) : Nat := runF (headP old now F) (min old.length now.length) 0
def tailF (old now : List Lx) (T G : Int) : Nat := runF (tailP old now T G) (min old.length now.length) 0

set_option maxRecDepth 100000 in
set_option maxHeartbeats 2000000 in
theorem head_any (old now : List Lx) (ov nv : Value) (x : Ed) (s t : List UInt8) (w : World) (ho : ReadsLx w ov old) (hn : ReadsLx w nv now) :
    Calls Tryd.prog 35 #[doneV x s t, ov, nv] w fun e w' => e = .returned (.int .i64 (headF old now x.1)) ∧ Below w.heap.size w w' := by
  obtain ⟨R, hR⟩ : ∃ R, R = headF old now x.1 := ⟨_, rfl⟩
  rw [← hR]
  have hlo := ho.len; have hln := hn.len
  have CR : Hid (∀ (m : Int) (W : World) (bo bd bn : Nat), m = min (old.length : Int) (now.length : Int) → Below w.heap.size w W → W.cell? ⟨bo, 0, none⟩ = some ov → W.cell? ⟨bn, 0, none⟩ = some nv → W.cell? ⟨bd, 0, none⟩ = some (.int .i64 x.1) →
      Calls Tryd.prog 31 #[.int .i64 m, .func (.func 49) #[] #[.pointer (some ⟨bo, 0, none⟩), .pointer (some ⟨bd, 0, none⟩), .pointer (some ⟨bn, 0, none⟩)]] W fun e w' => e = .returned (.int .i64 R) ∧ Below W.heap.size W w') := fun mi W bo bd bn hmi hW co cn cd => by
    obtain ⟨m, hm⟩ : ∃ m, m = min old.length now.length := ⟨_, rfl⟩
    have hmm : mi = (m : Int) := by rw [hmi, hm]; omega
    subst hmm
    have := run_calls m 49 #[.pointer (some ⟨bo, 0, none⟩), .pointer (some ⟨bd, 0, none⟩), .pointer (some ⟨bn, 0, none⟩)] (headP old now x.1) W (by omega) (enters_of Tryd.func49 (by kernel_rfl) rfl)
      (fun i V hi hb => head1 old now ov nv x s t bo bd bn i V (by omega) (by omega) ((ho.below hW).below hb) ((hn.below hW).below hb) ((hb.cell (cell_lt co)).trans co) ((hb.cell (cell_lt cn)).trans cn) ((hb.cell (cell_lt cd)).trans cd))
    have e : runF (headP old now x.1) m 0 = R := by rw [hR, hm]; rfl
    rw [e] at this; exact this
  obtain ⟨p1, cap1, rfl, j1, j2⟩ := ho
  obtain ⟨p2, cap2, rfl, j3, j4⟩ := hn
  obtain ⟨n, hn'⟩ : ∃ n, n = old.length := ⟨_, rfl⟩
  obtain ⟨m, hm'⟩ : ∃ m, m = now.length := ⟨_, rfl⟩
  rw [← hn', ← hm'] at CR
  rw [← hn'] at hlo
  rw [← hm'] at hln
  rw [← hn', ← hm']
  unfold doneV
  clear hR hn' hm' j1 j2 j3 j4
  have hfin : Below w.heap.size w (((w.alloc (.cells #[.int .i64 x.1, .int .i64 x.2.1, .string (mkS x.2.2), .string (mkS s), .string (mkS t)] 78)).alloc (.cells #[.slice p1 n cap1] 22)).alloc (.cells #[.slice p2 m cap2] 22)) := (((Below.refl _ _).alloc (Nat.le_refl _) _).alloc (by simp) _).alloc (by simp; omega) _
  have HF := Lib.hid hfin
  clear hfin
  go_enter Tryd.func35, Tryd.ntmps35
  go_wp2_with fail
  refine (CR.out _ _ _ _ _ rfl HF.out (by simp [go_sem]) (by simp [go_sem]) (by simp [go_sem])).mono ?_
  rintro e w1 ⟨rfl, hb1⟩
  go_wp2
  go_ret
  exact ⟨ret_int rfl, HF.out.trans (hb1.mono HF.out.size)⟩

set_option maxRecDepth 100000 in
set_option maxHeartbeats 2000000 in
theorem tail_any (old now : List Lx) (ov nv : Value) (x : Ed) (s t : List UInt8) (w : World) (ho : ReadsLx w ov old) (hn : ReadsLx w nv now) (hs : s.length ≤ 1000000000000) (ht : t.length ≤ 1000000000000) (hpl : ∀ y ∈ old, 0 ≤ y.2.2 ∧ y.2.2 ≤ 100000000000000) :
    Calls Tryd.prog 36 #[doneV x s t, ov, nv] w fun e w' => e = .returned (.int .i64 (tailF old now x.2.1 ((t.length : Int) - s.length))) ∧ Below w.heap.size w w' := by
  obtain ⟨R, hR⟩ : ∃ R, R = tailF old now x.2.1 ((t.length : Int) - s.length) := ⟨_, rfl⟩
  rw [← hR]
  have hlo := ho.len; have hln := hn.len
  have CR : Hid (∀ (m : Int) (W : World) (bo bd bn : Nat), m = min (old.length : Int) (now.length : Int) → Below w.heap.size w W → W.cell? ⟨bo, 0, none⟩ = some ov → W.cell? ⟨bn, 0, none⟩ = some nv → W.cell? ⟨bd, 0, none⟩ = some (.int .i64 x.1) → W.cell? ⟨bd, 1, none⟩ = some (.int .i64 x.2.1) → W.cell? ⟨bd, 2, none⟩ = some (.string (mkS x.2.2)) → W.cell? ⟨bd, 3, none⟩ = some (.string (mkS s)) → W.cell? ⟨bd, 4, none⟩ = some (.string (mkS t)) →
      Calls Tryd.prog 31 #[.int .i64 m, .func (.func 50) #[] #[.pointer (some ⟨bo, 0, none⟩), .pointer (some ⟨bd, 0, none⟩), .pointer (some ⟨bn, 0, none⟩)]] W fun e w' => e = .returned (.int .i64 R) ∧ Below W.heap.size W w') := fun mi W bo bd bn hmi hW co cn d0 d1 d2 d3 d4 => by
    obtain ⟨m, hm⟩ : ∃ m, m = min old.length now.length := ⟨_, rfl⟩
    have hmm : mi = (m : Int) := by rw [hmi, hm]; omega
    subst hmm
    have := run_calls m 50 #[.pointer (some ⟨bo, 0, none⟩), .pointer (some ⟨bd, 0, none⟩), .pointer (some ⟨bn, 0, none⟩)] (tailP old now x.2.1 ((t.length : Int) - s.length)) W (by omega) (enters_of Tryd.func50 (by kernel_rfl) rfl)
      (fun i V hi hb => tail1 old now ov nv x s t bo bd bn i V (by omega) (by omega) ((ho.below hW).below hb) ((hn.below hW).below hb) ((hb.cell (cell_lt co)).trans co) ((hb.cell (cell_lt cn)).trans cn) ((hb.cell (cell_lt d0)).trans d0) ((hb.cell (cell_lt d1)).trans d1) ((hb.cell (cell_lt d2)).trans d2) ((hb.cell (cell_lt d3)).trans d3) ((hb.cell (cell_lt d4)).trans d4) hs ht hpl)
    have e : runF (tailP old now x.2.1 ((t.length : Int) - s.length)) m 0 = R := by rw [hR, hm]; rfl
    rw [e] at this; exact this
  obtain ⟨p1, cap1, rfl, j1, j2⟩ := ho
  obtain ⟨p2, cap2, rfl, j3, j4⟩ := hn
  obtain ⟨n, hn'⟩ : ∃ n, n = old.length := ⟨_, rfl⟩
  obtain ⟨m, hm'⟩ : ∃ m, m = now.length := ⟨_, rfl⟩
  rw [← hn', ← hm'] at CR
  rw [← hn'] at hlo
  rw [← hm'] at hln
  rw [← hn', ← hm']
  unfold doneV
  clear hR hn' hm' j1 j2 j3 j4 hs ht hpl
  have hfin : Below w.heap.size w (((w.alloc (.cells #[.int .i64 x.1, .int .i64 x.2.1, .string (mkS x.2.2), .string (mkS s), .string (mkS t)] 78)).alloc (.cells #[.slice p1 n cap1] 22)).alloc (.cells #[.slice p2 m cap2] 22)) := (((Below.refl _ _).alloc (Nat.le_refl _) _).alloc (by simp) _).alloc (by simp; omega) _
  have HF := Lib.hid hfin
  clear hfin
  go_enter Tryd.func36, Tryd.ntmps36
  go_wp2_with fail
  refine (CR.out _ _ _ _ _ rfl HF.out (by simp [go_sem]) (by simp [go_sem]) (by simp [go_sem]) (by simp [go_sem]) (by simp [go_sem]) (by simp [go_sem]) (by simp [go_sem])).mono ?_
  rintro e w1 ⟨rfl, hb1⟩
  go_wp2
  go_ret
  exact ⟨ret_int rfl, HF.out.trans (hb1.mono HF.out.size)⟩
end Go.Proofs.YtlhbfgkcalalkaaDoor
