/- A range over a function value whose iterator writes cells of its own and whose body never leaves: a law for it. -/
import Derived.RangeFuncNested
import Derived.RangeFuncBound
import Derived.RangeFuncLeaves
import Derived.Shelf.Abstract
set_option linter.unusedVariables false
namespace Go.Proofs.YtlhbfgkcalalkaaDoor
open Go.RowKit Go.Shelf

/-- From A to B only blocks of Z have turned, and new ones have come. -/
structure Diff (Z : Nat → Prop) (A B : World) : Prop where
  os : B.os = A.os
  tape : B.tape = A.tape
  output : B.output = A.output
  size : A.heap.size ≤ B.heap.size
  block : ∀ k, k < A.heap.size → ¬ Z k → B.heap[k]? = A.heap[k]?
theorem Diff.refl (Z : Nat → Prop) (A : World) : Diff Z A A := ⟨rfl, rfl, rfl, Nat.le_refl _, fun _ _ _ => rfl⟩
theorem Diff.trans {Z : Nat → Prop} {A B C : World} (h : Diff Z A B) (k : Diff Z B C) : Diff Z A C :=
  ⟨k.os.trans h.os, k.tape.trans h.tape, k.output.trans h.output, Nat.le_trans h.size k.size, fun i hi hz => (k.block i (Nat.lt_of_lt_of_le hi h.size) hz).trans (h.block i hi hz)⟩
theorem Diff.weaken {Z Z' : Nat → Prop} {A B : World} (h : Diff Z A B) (hz : ∀ k, Z k → Z' k) : Diff Z' A B := ⟨h.os, h.tape, h.output, h.size, fun k hk hn => h.block k hk (fun e => hn (hz k e))⟩
theorem Diff.drew {Z : Nat → Prop} {A B : World} (h : Diff Z A B) : Diff Z A B.drew := ⟨h.os, h.tape, h.output, h.size, h.block⟩
theorem Diff.alloc {Z : Nat → Prop} {A B : World} (h : Diff Z A B) (o : Obj) : Diff Z A (B.alloc o) :=
  h.trans ⟨rfl, rfl, rfl, by simp, fun k hk _ => Below.heap_alloc _ _ _ hk⟩
theorem Diff.setCell {Z : Nat → Prop} {A B : World} (h : Diff Z A B) {p : Addr} (hp : Z p.block) (u : Value) : Diff Z A (B.setCell p u) :=
  h.trans ⟨rfl, rfl, rfl, by simp [World.setCell], fun k _ hz => Below.heap_setCell _ _ _ _ (fun e => hz (e ▸ hp))⟩
theorem Diff.putObj {Z : Nat → Prop} {A B : World} (h : Diff Z A B) {l : Nat} (hp : Z l) (o : Obj) : Diff Z A (B.putObj l o) :=
  h.trans ⟨rfl, rfl, rfl, by simp [World.putObj], fun k _ hz => World.putObj_heap_other (fun e => hz (e ▸ hp))⟩
theorem Diff.below {Z : Nat → Prop} {A B : World} {n : Nat} (h : Diff Z A B) (hn : n ≤ A.heap.size) (hz : ∀ k, k < n → ¬ Z k) : Below n A B :=
  ⟨h.os, h.tape, h.output, h.size, fun k hk => h.block k (by omega) (hz k hk)⟩
theorem Below.diff {A B : World} (h : Below A.heap.size A B) (Z : Nat → Prop) : Diff Z A B := ⟨h.os, h.tape, h.output, h.size, fun k hk _ => h.block k hk⟩

/-- From A to B the blocks of Z lie as they lay. -/
structure Keep (Z : Nat → Prop) (A B : World) : Prop where
  size : A.heap.size ≤ B.heap.size
  block : ∀ k, k < A.heap.size → Z k → B.heap[k]? = A.heap[k]?
theorem Keep.refl (Z : Nat → Prop) (A : World) : Keep Z A A := ⟨Nat.le_refl _, fun _ _ _ => rfl⟩
theorem Keep.trans {Z : Nat → Prop} {A B C : World} (h : Keep Z A B) (k : Keep Z B C) : Keep Z A C :=
  ⟨Nat.le_trans h.size k.size, fun i hi hz => (k.block i (Nat.lt_of_lt_of_le hi h.size) hz).trans (h.block i hi hz)⟩
theorem Keep.drew {Z : Nat → Prop} {A B : World} (h : Keep Z A B) : Keep Z A B.drew := ⟨h.size, h.block⟩
theorem Keep.alloc {Z : Nat → Prop} {A B : World} (h : Keep Z A B) (o : Obj) : Keep Z A (B.alloc o) :=
  h.trans ⟨by simp, fun k hk _ => Below.heap_alloc _ _ _ hk⟩
theorem Keep.setCell {Z : Nat → Prop} {A B : World} (h : Keep Z A B) {p : Addr} (hp : ¬ Z p.block) (u : Value) : Keep Z A (B.setCell p u) :=
  h.trans ⟨by simp [World.setCell], fun k _ hz => Below.heap_setCell _ _ _ _ (fun e => hp (e ▸ hz))⟩
theorem Keep.of_below {Z : Nat → Prop} {A B : World} (h : Below A.heap.size A B) : Keep Z A B := ⟨h.size, fun k hk _ => h.block k hk⟩
theorem Keep.weaken {Z Z' : Nat → Prop} {A B : World} (h : Keep Z' A B) (hz : ∀ k, Z k → Z' k) : Keep Z A B := ⟨h.size, fun k hk hk' => h.block k hk (hz k hk')⟩

/-- What an iterator promises whose rounds all say 'go on': it hands over xs, one after the other, and turns, beside new blocks, those of Z alone; the rounds must keep these. -/
def Iter {α : Type} (F : Fence) (n : Nat) (P : Program) (g : Nat) (lb : Array Value) (encs : α → Array Value) (xs : List α) (Z : World → Nat → Prop) (w : World) : Prop :=
  ∀ (l : Nat) (J : List α → World → Prop) (W : World), Below w.heap.size w W → (∀ s A B, J s A → Diff (Z W) A B → J s B) →
    (∀ pre x W1, pre ++ [x] <+: xs → J pre W1 → (∀ k, Z W k → k < W1.heap.size) → YieldAt F (n - 1) P l (encs x) W1 fun e W' => e = .returned (.bool true) ∧ J (pre ++ [x]) W' ∧ Keep (Z W) W1 W') →
    J [] W →
    CallsIn F n P g (#[.func (.yield l) #[] #[]] ++ lb) W fun e W' => (∃ v, e = .returned v) ∧ J xs W'

/-- The way out of a round's body. -/
def roundEnd {α : Type} (Z : Nat → Prop) (I : List α → World → Prop) (xs : List α) (W : World) : Exit → Act → World → Prop
  | .normal, _, W' => Keep Z W W' ∧ I xs W'
  | _, _, _ => False

variable {F : Fence} {n : Nat} {P : Program}

theorem range_all {α : Type} {g : Operand} {ps : Array Tmp} {assign body : Code} {Q : Exit → Act → World → Prop} {a : Act} {w : World}
    (hro : F.round = none) (h1 : 1 ≤ n) {gf : Nat} {lb : Array Value} (hg : a.eval g = .func (.func gf) #[] lb) (hFg : F.fn gf) (eg : ∀ args w, (callFunc gf args).run P w = .ok (.enter gf args) w)
    {encs : α → Array Value} {xs : List α} {Z : World → Nat → Prop} {w0 : World} (hiter : Iter F (n - 1) P gf lb encs xs Z w0) (hb0 : Below w0.heap.size w0 w) (hps : ∀ x, (encs x).size = ps.size)
    (Z' : Nat → Prop) (hZ : ∀ W1 : World, W1.heap.size = w.heap.size + 2 → ∀ k, Z W1 k → Z' k ∧ k ≠ w.heap.size ∧ k ≠ w.heap.size + 1) (hZ0 : Z' w.heap.size) (hZ1 : Z' (w.heap.size + 1))
    (I : List α → World → Prop) (hI : ∀ s A B, I s A → Diff Z' A B → I s B) (h0 : I [] w)
    (Ax : List α → α → Act → World → Prop) (hAx : ∀ s x a' A B, Ax s x a' A → Diff Z' A B → Ax s x a' B)
    (hassign : ∀ (l : Nat) (pre : List α) (x : α) (W : World) (K : Act → World → Prop), pre ++ [x] <+: xs → I pre W → (∀ k, Z' k → k < W.heap.size) → (∀ a' W', Keep Z' W W' → Ax pre x a' W' → K a' W') →
      assign.wpIn (F.inRound l) (n - 1 - 1) P (Exit.then K (fun _ _ _ => False)) { tmps := (ps.zip (encs x)).foldl (fun t (p, v) => t.setIfInBounds p v) a.tmps, defers := [] } W)
    (hbody : ∀ (l : Nat) (pre : List α) (x : α) (a' : Act) (W : World), pre ++ [x] <+: xs → Ax pre x a' W → (∀ k, Z' k → k < W.heap.size) → body.wpIn (F.inRound l) (n - 1 - 1) P (roundEnd Z' I (pre ++ [x]) W) a' W)
    (hZb : ∀ W1 : World, W1.heap.size = w.heap.size + 2 → ∀ k, Z' k → Z W1 k ∨ k < W1.heap.size)
    (hdone : ∀ (W : World), I xs W → W.heap[w.heap.size]? = some (.deferred (some [])) → Q .normal { a with defers := { target := .collected w.heap.size, args := #[] } :: a.defers } W) :
    (Code.rangeFunc g ps assign body).wpIn F n P Q a w := by
  refine wpIn_rangeFunc ?_
  intro fn hfn
  rw [hro]
  obtain ⟨rec, hrec⟩ : ∃ rec : LoopState → Option Code → Loop, rec = fun st pe => { state := st, pending := pe, fn, tmps := a.tmps, params := ps, assign, body, defers := w.heap.size } := ⟨_, rfl⟩
  obtain ⟨W1, hW1⟩ : ∃ W1, W1 = (w.alloc (.deferred (some []))).alloc (.loop (rec .ready none)) := ⟨_, rfl⟩
  have hs1 : W1.heap.size = w.heap.size + 2 := by rw [hW1]; simp
  have hL1 : W1.heap[w.heap.size + 1]? = some (.loop (rec .ready none)) := by
    rw [hW1]; have := World.alloc_heap_new (w.alloc (.deferred (some []))) (.loop (rec .ready none)); rwa [World.size_alloc] at this
  have hK1 : W1.heap[w.heap.size]? = some (.deferred (some [])) := by
    rw [hW1]; exact (Below.heap_alloc _ _ _ (by simp)).trans (World.alloc_heap_new w _)
  have hI1 : I [] W1 := by rw [hW1]; exact hI _ _ _ h0 (((Diff.refl _ _).alloc _).alloc _)
  have hb1 : Below w0.heap.size w0 W1 := by
    rw [hW1]; exact hb0.trans ((((Below.refl _ w).alloc (Nat.le_refl _) _).alloc (by simp) _).mono hb0.size)
  refine ⟨w.heap.size + 1, [{ target := .collected w.heap.size, args := #[] }], W1, { target := .fn (.func gf) lb, args := #[.func (.yield (w.heap.size + 1)) #[] #[]] }, W1, gf,
    #[.func (.yield (w.heap.size + 1)) #[] #[]] ++ lb, W1, ?_, ?_, ?_, ?_, fun _ => h1, ?_⟩
  · rw [hW1, hrec]; exact run_enterLoop_outer _ _ _ _ _
  · simp only [resolve, hg]
    simp [go_sem]
  · intro f' hf'; simp [Target.leads] at hf'; subst hf'; exact hFg
  · simp [invoke, go_sem, eg]
  · have hz := hZ W1 hs1
    refine (hiter (w.heap.size + 1) (fun pre W => I pre W ∧ W.heap[w.heap.size + 1]? = some (.loop (rec .ready none)) ∧ W.heap[w.heap.size]? = some (.deferred (some []))) W1 hb1 ?_ ?_ ⟨hI1, hL1, hK1⟩).mono ?_
    · rintro s A B ⟨hi, hl, hk⟩ hd
      refine ⟨hI s A B hi (hd.weaken fun k hk => (hz k hk).1), ?_, ?_⟩
      · rw [hd.block _ (Array.getElem?_eq_some_iff.1 hl).1 (fun e => (hz _ e).2.2 rfl)]; exact hl
      · rw [hd.block _ (Array.getElem?_eq_some_iff.1 hk).1 (fun e => (hz _ e).2.1 rfl)]; exact hk
    · rintro pre x W hpre ⟨hi, hl, hk⟩ hbnd
      have hlt : w.heap.size + 1 < W.heap.size := (Array.getElem?_eq_some_iff.1 hl).1
      have hbnd' : ∀ k, Z' k → k < W.heap.size := fun k hk => by
        rcases hZb W1 hs1 k hk with h | h
        · exact hbnd k h
        · omega
      have hy := run_yield (P := P) (args := encs x) hl (by rw [hrec]; exact hps x)
      rw [hrec] at hy
      refine ⟨fn, _, assign, body, hy, roundIn_of_wpIn hfn (hassign _ pre x W _ hpre hi hbnd' ?_)⟩
      intro a' Wa hka hax
      have hla : Wa.heap[w.heap.size + 1]? = some (.loop (rec .ready none)) := by rw [hka.block _ hlt hZ1]; exact hl
      have hkk : Wa.heap[w.heap.size]? = some (.deferred (some [])) := by rw [hka.block _ (by omega) hZ0]; exact hk
      have hlta : w.heap.size + 1 < Wa.heap.size := (Array.getElem?_eq_some_iff.1 hla).1
      refine ⟨_, run_beginRound hla (by rw [hrec]), ?_⟩
      obtain ⟨Wb, hWb⟩ : ∃ Wb, Wb = Wa.putObj (w.heap.size + 1) (.loop { rec .ready none with state := .busy }) := ⟨_, rfl⟩
      rw [← hWb]
      have hdb : Diff Z' Wa Wb := by rw [hWb]; exact (Diff.refl _ _).putObj hZ1 _
      have hsb : Wb.heap.size = Wa.heap.size := by rw [hWb]; simp [World.putObj]
      have hlb : Wb.heap[w.heap.size + 1]? = some (.loop { rec .ready none with state := .busy }) := by rw [hWb]; exact World.putObj_heap_same hlta
      have hkb : Wb.heap[w.heap.size]? = some (.deferred (some [])) := by rw [hWb]; exact (World.putObj_heap_other (by omega)).trans hkk
      refine wpIn_mono (hbody _ pre x a' Wb hpre (hAx _ _ _ _ _ hax hdb) (fun k hk => by rw [hsb]; exact Nat.lt_of_lt_of_le (hbnd' k hk) hka.size)) ?_
      rintro e a3 W3 hp
      cases e with
      | normal =>
        obtain ⟨hk3, hi3⟩ := hp
        have hl3 : W3.heap[w.heap.size + 1]? = some (.loop { rec .ready none with state := .busy }) := by rw [hk3.block _ (by omega) hZ1]; exact hlb
        have hk4 : W3.heap[w.heap.size]? = some (.deferred (some [])) := by rw [hk3.block _ (by omega) hZ0]; exact hkb
        have hlt3 := (Array.getElem?_eq_some_iff.1 hl3).1
        have hr := run_endRound (P := P) none hl3
        rw [hrec] at hr
        refine ⟨_, _, hr, rfl, ⟨hI _ _ _ hi3 ((Diff.refl _ _).putObj hZ1 _), ?_, (World.putObj_heap_other (by omega)).trans hk4⟩, ?_⟩
        · rw [World.putObj_heap_same hlt3, hrec]; rfl
        · refine ⟨?_, fun k hk hzk => ?_⟩
          · have e1 := hka.size; have e3 := hk3.size; simp [World.putObj]; omega
          · have hne := (hz k hzk).2.2
            rw [World.putObj_heap_other hne, hk3.block k (by have := hka.size; omega) (hz k hzk).1, hWb, World.putObj_heap_other hne]
            exact hka.block k hk (hz k hzk).1
      | ret => exact hp.elim
      | exit id => exact hp.elim
      | goto t => exact hp.elim
      | panic ch => exact hp.elim
      | outgrown => exact hp.elim
    · rintro e W2 ⟨⟨v, rfl⟩, hi, hl, hk⟩
      refine ⟨none, _, by have := run_endLoop (P := P) hl (by rw [hrec]; simp); rw [hrec] at this; exact this, ?_⟩
      exact hdone _ (hI _ _ _ hi ((Diff.refl _ _).putObj hZ1 _)) ((World.putObj_heap_other (by omega)).trans hk)
end Go.Proofs.YtlhbfgkcalalkaaDoor
