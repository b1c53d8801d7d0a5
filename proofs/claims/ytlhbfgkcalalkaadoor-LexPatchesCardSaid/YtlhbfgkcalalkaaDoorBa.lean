/- A text with blanks for its comments, byte by byte (no walk). -/
import Derived.Test.YtlhbfgkcalalkaaDoorSb
set_option linter.unusedVariables false
set_option linter.unusedSimpArgs false
namespace Go.Proofs.YtlhbfgkcalalkaaDoor
open Go.RowKit

/-- A text with blanks for its comments; whether a comment goes on at its beginning. -/
def blankF : Bool → List UInt8 → List UInt8
  | _, [] => []
  | inside, c :: r => if c = 10 then 10 :: blankF false r else if inside = true ∨ c = 37 then 32 :: blankF true r else c :: blankF false r
/-- A line with blanks for its comment. -/
def lineB (x : List UInt8) : List UInt8 := match Lib.indexByte x 37 with
  | .ofNat o => x.take o ++ List.replicate (x.length - o) 32
  | .negSucc _ => x
theorem lineB_none {x : List UInt8} (h : Lib.indexByte x 37 = -1) : lineB x = x := by unfold lineB; rw [h]; rfl
theorem lineB_some {x : List UInt8} {o : Nat} (h : Lib.indexByte x 37 = (o : Int)) : lineB x = x.take o ++ List.replicate (x.length - o) 32 := by unfold lineB; rw [h]
theorem lineB_cons (c : UInt8) (x : List UInt8) (h : c ≠ 37) : lineB (c :: x) = c :: lineB x := by
  have hge := Lib.indexByte_ge x 37
  by_cases e : Lib.indexByte x 37 = -1
  · have : Lib.indexByte (c :: x) 37 = -1 := by simp [Lib.indexByte, h, e]
    rw [lineB_none this, lineB_none e]
  · obtain ⟨o, ho⟩ : ∃ o : Nat, Lib.indexByte x 37 = (o : Int) := ⟨(Lib.indexByte x 37).toNat, by omega⟩
    have : Lib.indexByte (c :: x) 37 = ((o + 1 : Nat) : Int) := by simp only [Lib.indexByte]; simp [h, e, ho]
    rw [lineB_some this, lineB_some ho]; simp
theorem blankF_in (x : List UInt8) (hx : ∀ c ∈ x, c ≠ 10) (y : List UInt8) : blankF true (x ++ y) = List.replicate x.length 32 ++ blankF true y := by
  induction x with
  | nil => rfl
  | cons c x ih =>
    have h1 := hx c (List.mem_cons_self ..)
    rw [List.cons_append, blankF, if_neg h1, if_pos (.inl rfl), ih (fun d hd => hx d (List.mem_cons_of_mem _ hd)), List.length_cons, List.replicate_succ, List.cons_append]
theorem blankF_line (x : List UInt8) (hx : ∀ c ∈ x, c ≠ 10) (y : List UInt8) (hy : blankF true y = blankF false y) : blankF false (x ++ y) = lineB x ++ blankF false y := by
  induction x with
  | nil => rfl
  | cons c x ih =>
    have h1 := hx c (List.mem_cons_self ..)
    have ih' := ih (fun d hd => hx d (List.mem_cons_of_mem _ hd))
    by_cases h : c = 37
    · subst h
      have e : Lib.indexByte (37 :: x) 37 = ((0 : Nat) : Int) := by simp [Lib.indexByte]
      rw [List.cons_append, blankF, if_neg h1, if_pos (.inr rfl), blankF_in x (fun d hd => hx d (List.mem_cons_of_mem _ hd)), lineB_some e, hy]
      simp [List.replicate_succ]
    · rw [List.cons_append, blankF, if_neg h1, if_neg (by simp [h]), ih', lineB_cons c x h, List.cons_append]
theorem fillN_eq (l : List UInt8) (a : Nat) : ∀ k, a + k ≤ l.length → fillN l a k = l.take a ++ List.replicate k 32 ++ l.drop (a + k)
  | 0, h => by simp [fillN]
  | k + 1, h => by
    rw [fillN, fillN_eq l a k (by omega)]
    apply List.ext_getElem (by simp; omega)
    intro i h1 h2
    simp only [List.length_set, List.length_append, List.length_take, List.length_replicate, List.length_drop] at h1 h2
    rw [List.getElem_set]
    by_cases e : a + k = i
    · subst e
      rw [if_pos rfl, List.getElem_append_left (by simp; omega), List.getElem_append_right (by simp; omega)]
      simp
    · rw [if_neg e]
      rcases Nat.lt_or_ge i a with c | c
      · rw [List.getElem_append_left (by simp; omega), List.getElem_append_left (by simp; omega), List.getElem_append_left (by simp; omega), List.getElem_append_left (by simp; omega)]
      · rcases Nat.lt_or_ge i (a + k) with c2 | c2
        · rw [List.getElem_append_left (by simp; omega), List.getElem_append_right (by simp; omega), List.getElem_append_left (by simp; omega), List.getElem_append_right (by simp; omega)]
          simp
        · rw [List.getElem_append_right (by simp; omega), List.getElem_append_right (by simp; omega), List.getElem_drop, List.getElem_drop]
          congr 1
          simp; omega
theorem fill_line (pre x post : List UInt8) (b : Nat) (hb : b = pre.length) :
    blankAll (pre ++ (x ++ post)) (comL b [x]) = pre ++ (lineB x ++ post) := by
  rw [comL_one]
  have hge := Lib.indexByte_ge x 37
  by_cases e : Lib.indexByte x 37 = -1
  · rw [lineB_none e, e]; rfl
  · obtain ⟨o, ho⟩ : ∃ o : Nat, Lib.indexByte x 37 = (o : Int) := ⟨(Lib.indexByte x 37).toNat, by omega⟩
    have hol : o < x.length := by
      have := (Lib.indexByte_some ho).1
      rcases Nat.lt_or_ge o x.length with h | h
      · exact h
      · rw [List.getElem?_eq_none h] at this; cases this
    rw [lineB_some ho, ho]
    show fillN (pre ++ (x ++ post)) (b + o) (b + x.length - (b + o)) = _
    rw [fillN_eq _ _ _ (by simp; omega), show b + o + (b + x.length - (b + o)) = pre.length + x.length by omega, show b + x.length - (b + o) = x.length - o by omega, hb]
    rw [List.take_length_add_append, List.drop_length_add_append, List.take_append_of_le_length (by omega), List.drop_left]
    simp
theorem blankAll_append (l : List UInt8) (xs ys : List (Nat × Nat)) : blankAll l (xs ++ ys) = blankAll (blankAll l xs) ys := by simp [blankAll]
theorem indexByte_mem {x : List UInt8} {v : UInt8} (h : Lib.indexByte x v = -1) : ∀ c ∈ x, c ≠ v := by
  induction x with
  | nil => simp
  | cons d x ih =>
    have hge := Lib.indexByte_ge x v
    simp only [Lib.indexByte] at h
    by_cases e : d = v
    · subst e; simp at h
    · by_cases e2 : Lib.indexByte x v = -1
      · intro c hc
        rcases List.mem_cons.1 hc with rfl | hc
        · exact e
        · exact ih e2 c hc
      · simp [e, e2] at h; omega
theorem indexByte_at {x : List UInt8} {v : UInt8} : ∀ {o : Nat}, Lib.indexByte x v = (o : Int) → x = x.take o ++ v :: x.drop (o + 1) ∧ ∀ c ∈ x.take o, c ≠ v := by
  induction x with
  | nil => intro o h; simp [Lib.indexByte] at h
  | cons d x ih =>
    intro o h
    have hge := Lib.indexByte_ge x v
    simp only [Lib.indexByte] at h
    by_cases e : d = v
    · subst e
      simp at h
      obtain rfl : o = 0 := by omega
      simp
    · by_cases e2 : Lib.indexByte x v = -1
      · simp [e, e2] at h
      · simp [e, e2] at h
        obtain ⟨o', rfl⟩ : ∃ o', o = o' + 1 := ⟨o - 1, by omega⟩
        obtain ⟨i1, i2⟩ := ih (o := o') (by omega)
        refine ⟨?_, ?_⟩
        · rw [List.take_succ_cons, List.drop_succ_cons, List.cons_append, ← i1]
        · intro c hc
          rw [List.take_succ_cons] at hc
          rcases List.mem_cons.1 hc with rfl | hc
          · exact e
          · exact i2 c hc
theorem blank_lines : ∀ (n : Nat) (l pre : List UInt8), l.length ≤ n → blankAll (pre ++ l) (comL pre.length (splitNl l)) = pre ++ blankF false l
  | n, l, pre, hn => by
    have hge := Lib.indexByte_ge l 10
    by_cases e : Lib.indexByte l 10 = -1
    · rw [splitNl_none l e]
      have := fill_line pre l [] pre.length rfl
      rw [List.append_nil, List.append_nil] at this
      rw [this]
      have h2 := blankF_line l (indexByte_mem e) [] rfl
      rw [List.append_nil] at h2
      rw [h2]; simp [blankF]
    · obtain ⟨o, ho⟩ : ∃ o : Nat, Lib.indexByte l 10 = (o : Int) := ⟨(Lib.indexByte l 10).toNat, by omega⟩
      obtain ⟨e1, e2⟩ := indexByte_at ho
      obtain ⟨x, hx⟩ : ∃ x, x = l.take o := ⟨_, rfl⟩
      obtain ⟨y, hy⟩ : ∃ y, y = l.drop (o + 1) := ⟨_, rfl⟩
      rw [splitNl_some l o ho, ← hx, ← hy]
      rw [← hx, ← hy] at e1
      rw [← hx] at e2
      have hyl : y.length < n := by have := congrArg List.length e1; simp at this; omega
      have hxl : (lineB x).length = x.length := by
        have := congrArg List.length (fill_line [] x [] 0 rfl)
        rw [blankAll_length] at this; simpa using this.symm
      rw [show x :: splitNl y = [x] ++ splitNl y from rfl, comL_append, blankAll_append, e1, fill_line pre x (10 :: y) pre.length rfl, show offL [x] = x.length + 1 by simp [offL], ← Nat.add_assoc]
      have hpre : pre ++ (lineB x ++ 10 :: y) = (pre ++ lineB x ++ [10]) ++ y := by simp
      have hlen : pre.length + x.length + 1 = (pre ++ lineB x ++ [10]).length := by simp; omega
      rw [hpre, hlen]
      cases n with
      | zero => omega
      | succ n =>
        rw [blank_lines n y (pre ++ lineB x ++ [10]) (by omega), blankF_line x e2 (10 :: y) (by simp [blankF])]
        simp [blankF]
/-- What blanked comes to, byte by byte. -/
theorem blankL_eq (l : List UInt8) : blankL l = blankF false l := by
  have := blank_lines l.length l [] (Nat.le_refl _)
  simpa [blankL] using this

theorem blankF_length (b : Bool) (l : List UInt8) : (blankF b l).length = l.length := by
  induction l generalizing b with
  | nil => rfl
  | cons c r ih => rw [blankF]; split; simp [ih]; split <;> simp [ih]
/-- How a byte and what stands in its place go together. -/
def okB (c d : UInt8) : Prop := (c = 10 ↔ d = 10) ∧ d ≠ 37 ∧ (d = c ∨ d = 32)
theorem blankF_at (b : Bool) (l : List UInt8) : ∀ i, i < l.length → okB (l.getD i 0) ((blankF b l).getD i 0) := by
  induction l generalizing b with
  | nil => intro i h; simp at h
  | cons c r ih =>
    intro i h
    rw [blankF]
    by_cases h1 : c = 10
    · rw [if_pos h1]
      cases i with
      | zero => subst h1; exact ⟨by simp, by simp, by simp⟩
      | succ i => simpa using ih false i (by simpa using h)
    · rw [if_neg h1]
      by_cases h2 : b = true ∨ c = 37
      · rw [if_pos h2]
        cases i with
        | zero => exact ⟨by simpa using h1, by simp, by simp⟩
        | succ i => simpa using ih true i (by simpa using h)
      · rw [if_neg h2]
        cases i with
        | zero => exact ⟨by simp, by simp; exact fun e => h2 (.inr e), by simp⟩
        | succ i => simpa using ih false i (by simpa using h)
theorem blankF_id (l : List UInt8) (h : ∀ c ∈ l, c ≠ 37) : blankF false l = l := by
  induction l with
  | nil => rfl
  | cons c r ih =>
    have h1 := h c (List.mem_cons_self ..)
    rw [blankF, ih (fun d hd => h d (List.mem_cons_of_mem _ hd))]
    by_cases h2 : c = 10
    · rw [if_pos h2, h2]
    · rw [if_neg h2, if_neg (by simp [h1])]
theorem blankL_twice (l : List UInt8) : blankL (blankL l) = blankL l := by
  rw [blankL_eq (blankL l)]
  refine blankF_id _ fun c hc => ?_
  rw [blankL_eq] at hc
  obtain ⟨i, hi, rfl⟩ := List.mem_iff_getElem.1 hc
  have := (blankF_at false l i (by rwa [blankF_length] at hi)).2.1
  rw [show (blankF false l).getD i 0 = (blankF false l)[i] by rw [List.getD_eq_getElem?_getD, List.getElem?_eq_getElem hi]; rfl] at this
  exact this
theorem chkE_zero {l : List UInt8} : chkE l = 0 ↔ l.length ≤ 2500 ∧ ∀ i, i < l.length → cls (l.getD i 0).toNat ≠ 0 := by
  unfold chkE
  constructor
  · intro h
    split at h
    · simp at h
    · split at h
      · simp at h
      · rename_i h1 h2
        refine ⟨by omega, fun i hi => ?_⟩
        have hb : bad l = l.length := Nat.le_antisymm (by unfold bad; exact List.findIdx_le_length) (by omega)
        have := List.findIdx_eq_length.1 (show l.findIdx (fun c => decide (cls c.toNat = 0)) = l.length from hb) l[i] (List.getElem_mem _)
        rw [List.getD_eq_getElem?_getD, List.getElem?_eq_getElem hi]
        simpa using this
  · rintro ⟨h1, h2⟩
    have hb : bad l = l.length := bad_none l fun j hj => by
      have := h2 j hj
      rw [List.getD_eq_getElem?_getD, List.getElem?_eq_getElem hj] at this
      simpa using this
    rw [if_neg (by omega), hb, if_neg (by omega)]
theorem chkE_blank {l : List UInt8} (h : chkE l = 0) : chkE (blankL l) = 0 := by
  rw [chkE_zero] at h ⊢
  refine ⟨by rw [blankL_length]; exact h.1, fun i hi => ?_⟩
  rw [blankL_length] at hi
  rw [blankL_eq]
  rcases (blankF_at false l i hi).2.2 with e | e
  · rw [e]; exact h.2 i hi
  · rw [e]; decide
theorem scanF_blank {l : List UInt8} (h : chkE l = 0) : scanF (blankL l) = scanF l := by
  have h2 := chkE_blank h
  unfold scanF
  rw [if_neg (by omega), if_neg (by omega), blankL_twice, blankL_length]
end Go.Proofs.YtlhbfgkcalalkaaDoor
