/- A statement that draws its order, where what holds of the memory hangs on what has come up: cells that are read first, and written last. -/
import Derived.OrdersHeld
import Derived.Test.YtmooikdodbjgpaaDoorOrP1
set_option linter.unusedVariables false
set_option linter.unusedSimpArgs false
namespace Go.Proofs.YtmooikdodbjgpaaDoor.Or
open Go Go.RowKit

section
variable {P : Program} {ops : Array Oper} {Q : Exit → Act → World → Prop} {md : Region.Mode}

/-- Nothing has come up ahead of what it waits for. -/
def Clo (md : Region.Mode) (ops : Array Oper) (L : Array Bool) : Prop :=
  ∀ j oj, ops[j]? = some oj → L.getD j false = true → ∀ e ∈ oj.after, Region.binds md e = true → L.getD e.on false = true
theorem getD_ft {L : Array Bool} {j : Nat} (h : L.getD j true = false) : L.getD j false = false := by
  rcases Nat.lt_or_ge j L.size with h' | h'
  · simp [h'] at h ⊢; exact h
  · simp [Array.getElem?_eq_none h'] at h
theorem Clo.start (md : Region.Mode) (ops : Array Oper) (n : Nat) : Clo md ops (Array.replicate n false) := fun j oj _ h => by
  rcases Nat.lt_or_ge j n with h' | h' <;> simp [h'] at h
theorem Clo.set {L : Array Bool} {j : Nat} (h : Clo md ops L) (hj : j ∈ Region.ready md ops L) : Clo md ops (L.setIfInBounds j true) := fun k ok hk hL e he hb => by
  by_cases hkj : k = j
  · subst hkj
    obtain ⟨_, o, ho, hall⟩ := mem_ready.1 hj
    rw [ho] at hk; injection hk with hk; subst hk
    exact getD_set_true (hall e he hb)
  · rw [getD_set_ne false (fun e => hkj e.symm)] at hL
    exact getD_set_true (h k ok hk hL e he hb)

theorem Clo.up {L : Array Bool} {j : Nat} (h : Clo md ops L) (hj : (Region.ready md ops L).contains j = true) : Clo md ops (L.setIfInBounds j true) := h.set (by simpa using hj)

/-- Whichever order is picked from here on, with what holds behind each operation. -/
def AnyL (P : Program) (md : Region.Mode) (ops : Array Oper) (Q : Exit → Act → World → Prop) (S : Array Bool → World → Prop) : Nat → Array Bool → Act → World → Prop
  | 0, L, a, w => Region.ready md ops L = [] ∧ Q .normal a w
  | f + 1, L, a, w =>
    (Region.ready md ops L = [] → Q .normal a w) ∧
    ∀ i ∈ Region.ready md ops L, wpOp P ops Q i (fun a' w' => S (L.setIfInBounds i true) w' ∧ AnyL P md ops Q S f (L.setIfInBounds i true) a' w') a w
theorem AnyL.any {S : Array Bool → World → Prop} : ∀ (f : Nat) (L : Array Bool) (a : Act) (w : World), AnyL P md ops Q S f L a w → wpAny P md ops Q f L a w
  | 0, _, _, _, h => h
  | f + 1, _, _, _, h => ⟨h.1, fun i hi => wpOp_mono (fun a' w' h' => AnyL.any f _ a' w' h'.2) (h.2 i hi)⟩
theorem yieldsIf_mono {S S' : World → Prop} {o : Oper} {v : Value} {a : Act} (h : ∀ u, S' u → S u) (hy : YieldsIf P ops S o v a) : YieldsIf P ops S' o v a :=
  hy.imp (fun ⟨h1, h2⟩ => ⟨h1, fun w hw => h2 w (h w hw)⟩) id

theorem AnyL.first {S : Array Bool → World → Prop} {i : Nat} {oi : Oper} {v : Value} (hi : ops[i]? = some oi) (hsel : ∀ (j : Nat) (o : Oper) cs b, ops[j]? = some o → o.op ≠ .select cs b)
    (hQ : ∀ c a w, Q (.panic c) (a.put oi.dst v) w → Q (.panic c) a w) (hSi : ∀ M u, S (M.setIfInBounds i true) u ↔ S M u) :
    ∀ (f : Nat) (L : Array Bool) (a : Act) (w : World), Clo md ops L →
      (∀ j oj, ops[j]? = some oj → j ≠ i → L.getD j true = false → (∀ e ∈ oj.after, Region.binds md e = true → e.on ≠ i) → oi.apart ops oj = true) →
      i ∈ Region.ready md ops L → YieldsIf P ops (fun u => ∃ M, Clo md ops M ∧ M.getD i true = false ∧ S M u) oi v a → S L w →
      AnyL P md ops Q S f (L.setIfInBounds i true) (a.put oi.dst v) w → AnyL P md ops Q S (f + 1) L a w := by
  intro f
  induction f with
  | zero =>
    intro L a w hC _ hr hy hS H
    refine ⟨fun h => (by rw [h] at hr; cases hr), fun j hj => ?_⟩
    by_cases hji : j = i
    · subst hji
      exact hy.wpOp hi ⟨L, hC, (mem_ready.1 hj).1, hS⟩ ⟨(hSi L w).2 hS, H⟩
    · have := ready_mono hj hji
      rw [H.1] at this
      cases this
  | succ f ih =>
    intro L a w hC hfree hr hy hS H
    refine ⟨fun h => (by rw [h] at hr; cases hr), fun j hj => ?_⟩
    by_cases hji : j = i
    · subst hji
      exact hy.wpOp hi ⟨L, hC, (mem_ready.1 hj).1, hS⟩ ⟨(hSi L w).2 hS, H⟩
    · have h1 := H.2 j (ready_mono hj hji)
      obtain ⟨hjun, oj, hoj, hall⟩ := mem_ready.1 hj
      have hnot : ∀ e ∈ oj.after, Region.binds md e = true → e.on ≠ i := fun e he hb heq => by
        have h2 := hall e he hb
        rw [heq, getD_ft (mem_ready.1 hr).1] at h2
        cases h2
      have h2 := wpOp_putIf hoj (hfree j oj hoj hji hjun hnot) (fun cs b => hsel i oi cs b hi) (fun cs b => hsel j oj cs b hoj) hQ hy h1
      have hfree' : ∀ k ok, ops[k]? = some ok → k ≠ i → (L.setIfInBounds j true).getD k true = false →
          (∀ e ∈ ok.after, Region.binds md e = true → e.on ≠ i) → oi.apart ops ok = true := fun k ok hk hki hun hno => by
        refine hfree k ok hk hki ?_ hno
        by_cases hjk : j = k
        · subst hjk; exact hjun
        · rw [getD_set_ne true hjk] at hun; exact hun
      refine wpOp_mono (fun a' w' h3 => ?_) h2
      have h4 : S (L.setIfInBounds j true) w' := by
        have := h3.2.1
        rw [Array.setIfInBounds_comm _ _ (Ne.symm hji)] at this
        exact (hSi _ _).1 this
      refine ⟨h4, ih (L.setIfInBounds j true) a' w' (hC.set hj) hfree' (ready_mono hr (Ne.symm hji)) h3.1 h4 ?_⟩
      rw [Array.setIfInBounds_comm _ _ hji]
      exact h3.2.2

/-- Cells that are read before x, and before y, come up; and what always holds. -/
def Two (x y : Nat) (A B C : World → Prop) (L : Array Bool) (u : World) : Prop := (L.getD x false = true ∨ A u) ∧ (L.getD y false = true ∨ B u) ∧ C u
theorem Two.set {x y i : Nat} {A B C : World → Prop} (hx : i ≠ x) (hy : i ≠ y) (L : Array Bool) (u : World) : Two x y A B C (L.setIfInBounds i true) u ↔ Two x y A B C L u := by
  unfold Two
  rw [getD_set_ne false hx, getD_set_ne false hy]
theorem AnyL.takeS {x y : Nat} {A B C : World → Prop} {i : Nat} {oi : Oper} {v : Value} {f : Nat} {L : Array Bool} {a : Act} {w : World} (hi : ops[i]? = some oi)
    (hs : Region.noSelect ops = true) (hf : Region.free md ops L i = true) (hr : (Region.ready md ops L).contains i = true)
    (hQ : ∀ c a w, Q (.panic c) (a.put oi.dst v) w → Q (.panic c) a w) (hx : i ≠ x) (hy : i ≠ y) (hC : Clo md ops L)
    (hv : YieldsIf P ops (fun u => ∃ M, Clo md ops M ∧ M.getD i true = false ∧ Two x y A B C M u) oi v a) (hS : Two x y A B C L w)
    (h : Clo md ops (L.setIfInBounds i true) → AnyL P md ops Q (Two x y A B C) f (L.setIfInBounds i true) (a.put oi.dst v) w) : AnyL P md ops Q (Two x y A B C) (f + 1) L a w :=
  AnyL.first hi (Region.noSelect_spec hs) hQ (fun M u => Two.set hx hy M u) f L a w hC (Region.free_spec hi hf) (by simpa using hr) hv hS (h (hC.set (by simpa using hr)))
/-- Take number i first: it yields the same wherever C holds. -/
theorem AnyL.takeC {x y : Nat} {A B C : World → Prop} {i : Nat} {oi : Oper} {v : Value} {f : Nat} {L : Array Bool} {a : Act} {w : World} (hi : ops[i]? = some oi)
    (hs : Region.noSelect ops = true) (hf : Region.free md ops L i = true) (hr : (Region.ready md ops L).contains i = true)
    (hQ : ∀ c a w, Q (.panic c) (a.put oi.dst v) w → Q (.panic c) a w) (hx : i ≠ x) (hy : i ≠ y) (hC : Clo md ops L)
    (hv : YieldsIf P ops C oi v a) (hS : Two x y A B C L w)
    (h : Clo md ops (L.setIfInBounds i true) → AnyL P md ops Q (Two x y A B C) f (L.setIfInBounds i true) (a.put oi.dst v) w) : AnyL P md ops Q (Two x y A B C) (f + 1) L a w :=
  AnyL.takeS hi hs hf hr hQ hx hy hC (yieldsIf_mono (fun u ⟨_, _, _, h⟩ => h.2.2) hv) hS h
def waitsFor (md : Region.Mode) (ops : Array Oper) (x i : Nat) : Bool := match ops[x]? with
  | some o => o.after.any fun e => Region.binds md e && e.on == i
  | none => false
theorem waits_no {x i : Nat} {M : Array Bool} (h : waitsFor md ops x i = true) (hC : Clo md ops M) (hi : M.getD i true = false) : M.getD x false ≠ true := fun hx => by
  unfold waitsFor at h
  cases ho : ops[x]? with
  | none => rw [ho] at h; cases h
  | some o =>
    rw [ho] at h
    simp only [Array.any_eq_true, Bool.and_eq_true, beq_iff_eq] at h
    obtain ⟨k, hk, hb, he⟩ := h
    have := hC x o ho hx o.after[k] (Array.getElem_mem hk) hb
    rw [he, getD_ft hi] at this
    cases this
/-- Take number i first: it is read before x comes up. -/
theorem AnyL.takeA {x y : Nat} {A B C : World → Prop} {i : Nat} {oi : Oper} {v : Value} {f : Nat} {L : Array Bool} {a : Act} {w : World} (hi : ops[i]? = some oi)
    (hs : Region.noSelect ops = true) (hf : Region.free md ops L i = true) (hr : (Region.ready md ops L).contains i = true)
    (hQ : ∀ c a w, Q (.panic c) (a.put oi.dst v) w → Q (.panic c) a w) (hx : i ≠ x) (hy : i ≠ y) (hw : waitsFor md ops x i = true) (hC : Clo md ops L)
    (hv : YieldsIf P ops A oi v a) (hS : Two x y A B C L w)
    (h : Clo md ops (L.setIfInBounds i true) → AnyL P md ops Q (Two x y A B C) f (L.setIfInBounds i true) (a.put oi.dst v) w) : AnyL P md ops Q (Two x y A B C) (f + 1) L a w :=
  AnyL.takeS hi hs hf hr hQ hx hy hC (yieldsIf_mono (fun u ⟨M, h1, h2, h3⟩ => h3.1.resolve_left (waits_no hw h1 h2)) hv) hS h
theorem AnyL.takeB {x y : Nat} {A B C : World → Prop} {i : Nat} {oi : Oper} {v : Value} {f : Nat} {L : Array Bool} {a : Act} {w : World} (hi : ops[i]? = some oi)
    (hs : Region.noSelect ops = true) (hf : Region.free md ops L i = true) (hr : (Region.ready md ops L).contains i = true)
    (hQ : ∀ c a w, Q (.panic c) (a.put oi.dst v) w → Q (.panic c) a w) (hx : i ≠ x) (hy : i ≠ y) (hw : waitsFor md ops y i = true) (hC : Clo md ops L)
    (hv : YieldsIf P ops B oi v a) (hS : Two x y A B C L w)
    (h : Clo md ops (L.setIfInBounds i true) → AnyL P md ops Q (Two x y A B C) f (L.setIfInBounds i true) (a.put oi.dst v) w) : AnyL P md ops Q (Two x y A B C) (f + 1) L a w :=
  AnyL.takeS hi hs hf hr hQ hx hy hC (yieldsIf_mono (fun u ⟨M, h1, h2, h3⟩ => h3.2.1.resolve_left (waits_no hw h1 h2)) hv) hS h
/-- One operation, as it stands. -/
def StepL (P : Program) (ops : Array Oper) (Q : Exit → Act → World → Prop) (o : Oper) (a : Act) (w : World) (K : Act → World → Prop) : Prop :=
  if Region.wanted o (yielded ops a.tmps) = true then Oper.wp P o a w K Q else K (a.put o.dst undef) w
theorem StepL.op {i : Nat} {o : Oper} {a : Act} {w : World} {K : Act → World → Prop} (hi : ops[i]? = some o) (h : StepL P ops Q o a w K) : wpOp P ops Q i K a w := by
  unfold wpOp StepL at *
  simp only [hi]
  split
  · rename_i hw; rw [if_pos hw] at h; exact .inl h
  · rename_i hw; rw [if_neg hw] at h; exact h
theorem AnyL.one {S : Array Bool → World → Prop} {i : Nat} {oi : Oper} {f : Nat} {L : Array Bool} {a : Act} {w : World} (hr : Region.ready md ops L = [i]) (hi : ops[i]? = some oi)
    (h : ∀ K : Act → World → Prop, Hid (∀ a' w', S (L.setIfInBounds i true) w' → AnyL P md ops Q S f (L.setIfInBounds i true) a' w' → K a' w') → StepL P ops Q oi a w K) : AnyL P md ops Q S (f + 1) L a w := by
  refine ⟨fun h0 => (by rw [hr] at h0; cases h0), fun j hj => ?_⟩
  rw [hr, List.mem_singleton] at hj
  subst hj
  exact StepL.op hi (h _ fun a' w' h1 h2 => ⟨h1, h2⟩)
theorem AnyL.two {S : Array Bool → World → Prop} {i k : Nat} {oi ok : Oper} {f : Nat} {L : Array Bool} {a : Act} {w : World} (hr : Region.ready md ops L = [i, k]) (hi : ops[i]? = some oi) (hk : ops[k]? = some ok)
    (h : ∀ K : Act → World → Prop, Hid (∀ a' w', S (L.setIfInBounds i true) w' → AnyL P md ops Q S f (L.setIfInBounds i true) a' w' → K a' w') → StepL P ops Q oi a w K)
    (h' : ∀ K : Act → World → Prop, Hid (∀ a' w', S (L.setIfInBounds k true) w' → AnyL P md ops Q S f (L.setIfInBounds k true) a' w' → K a' w') → StepL P ops Q ok a w K) : AnyL P md ops Q S (f + 1) L a w := by
  refine ⟨fun h0 => (by rw [hr] at h0; cases h0), fun j hj => ?_⟩
  rw [hr, List.mem_cons, List.mem_singleton] at hj
  rcases hj with rfl | rfl
  · exact StepL.op hi (h _ fun a' w' h1 h2 => ⟨h1, h2⟩)
  · exact StepL.op hk (h' _ fun a' w' h1 h2 => ⟨h1, h2⟩)
theorem AnyL.done {S : Array Bool → World → Prop} {L : Array Bool} {a : Act} {w : World} (hr : Region.ready md ops L = []) (h : Q .normal a w) : ∀ f, AnyL P md ops Q S f L a w
  | 0 => ⟨hr, h⟩
  | _ + 1 => ⟨fun _ => h, by rw [hr]; simp⟩
/-- The beginning. -/
theorem wp_region_two (x y : Nat) (A B C : World → Prop) {id : Nat} {a : Act} {w : World} (hm : P.follows .mixedOrders = true)
    (h : Clo .any ops (Array.replicate ops.size false) → AnyL P .any ops Q (Two x y A B C) ops.size (Array.replicate ops.size false) a w.drew) : (Code.region id ops true).wp P Q a w :=
  wp_region_any hm (AnyL.any _ _ _ _ (h (Clo.start _ _ _)))
end
end Go.Proofs.YtmooikdodbjgpaaDoor.Or
