/- Append of one shape to a row of one's own; shapes whose lists lie in a stretch of blocks. -/
import Derived.Test.YtfhnigpjmljhbaaDoorOrPe
import Derived.Test.YtfhnigpjmljhbaaDoorOrBv
set_option linter.unusedVariables false
set_option linter.unusedSimpArgs false
namespace Go.Proofs.YtfhnigpjmljhbaaDoor.Or
open Go.RowKit Go.Shelf

theorem run_append_el {P : Program} (w : World) (base : Nat) (t ty e : TypeId) (i : TypeInfo) (z : Value) (size bytes : Nat) (ht : P.underlying t = some (.slice e)) (hi : P.info? e = some i) (hz : i.zero = some z) (hsize : i.size = size) (hby : i.bytes = bytes) (hzs : z.cells.size = size) (hsz : 0 < size)
    (v : Value) (n : Nat) (xs : List Value) (hown : w.ownsRow base e size v n xs) (k : Nat) (ys : List Value) (hyl : ys.length = size) (hy : ∀ j u, ys[j]? = some u → w.cell? ⟨k, j, none⟩ = some u) (h1 : ∀ u ∈ ys, u.oneCell' = true) (h63 : n + 1 ≤ maxLen) (hbytes : (n + 1) * bytes ≤ 140737488355328) (hbase : base ≤ w.heap.size) :
    ∃ v' w', (Builtin.append_ #[t, t] ty #[v, .slice (some ⟨k, 0, none⟩) 1 1]).run P w = .ok v' w' ∧ w'.ownsRow base e size v' (n + 1) (xs ++ ys) ∧ w.grownBy w' v.ownBlock ∧ (v'.ownBlock = v.ownBlock ∨ v'.ownBlock = some w.heap.size) := by
  have hnews : ∀ j u, ys[j]? = some u → w.cell? ((⟨k, 0, none⟩ : Addr).add j) = some u := fun j u hj => by
    have hadd : (⟨k, 0, none⟩ : Addr).add j = ⟨k, j, none⟩ := by unfold Addr.add; split <;> simp_all
    rw [hadd]; exact hy j u hj
  have hl1 : ys.length = 1 * size := by omega
  obtain ⟨v', w', hr, h2, h3, _⟩ := run_append_own (P := P) w base t ty e i z size bytes ht hi hz hsize hby hzs hsz v n xs hown ⟨k, 0, none⟩ 1 1 ys hl1 hnews h1 h63 hbytes hbase
  refine ⟨v', w', hr, h2, h3, ?_⟩
  have hm : n + 1 ≤ 9223372036854775807 := by simp only [maxLen] at h63; omega
  rcases hown.2 with ⟨rfl, rfl⟩ | ⟨g, cap, cur, rfl, hbg, hg, hnc, hcm, hcs, htake⟩
  · have hr2 := run_append_nil (P := P) w t ty e i z ht hi hz ⟨k, 0, none⟩ 1 1 ys (by rw [hsize]; exact hl1) hnews (by omega) (by omega) (by rw [hby]; omega)
    rw [hr2] at hr
    injection hr with hr _
    subst hr
    exact .inr rfl
  · by_cases hroom : n + 1 ≤ cap
    · have hfit : n * i.size + ys.length ≤ cur.size := by
        rw [hsize, hcs, hyl]
        have := Nat.mul_le_mul_right size hroom
        rw [Nat.add_mul, Nat.one_mul] at this; exact this
      have hr2 := run_append_room (P := P) w t ty e i ht hi g n cap cur hg ⟨k, 0, none⟩ 1 1 ys (by rw [hsize]; exact hl1) hnews h1 hroom hfit
      rw [hr2] at hr
      injection hr with hr _
      subst hr
      exact .inl rfl
    · have hr2 := run_append_grow (P := P) w t ty e i z ht hi hz ⟨g, 0, none⟩ n cap xs (by rw [hsize]; exact hown.1) (hown.cells (g := g) rfl) ⟨k, 0, none⟩ 1 1 ys (by rw [hsize]; exact hl1) hnews (by omega) (by omega) (by rw [hby]; exact growslice_fits (by omega) hbytes)
      rw [hr2] at hr
      injection hr with hr _
      subst hr
      exact .inr rfl
theorem step_append_el {ops : Array Oper} {w : World} {o : Oper} {a : Act} {K : Act → World → Prop} {Q : Exit → Act → World → Prop} {E : Prop} (hg : o.guard = none) (s x : Operand) (T e : TypeId)
    (ho : o.op = .call { callee := .builtin .append, args := #[s, x], argTypes := #[T, T] })
    (i0 : TypeInfo) (z : Value) (size by' : Nat) (ht : Tryd.prog.underlying T = some (.slice e)) (hi : Tryd.prog.info? e = some i0) (hz0 : i0.zero = some z) (hz1 : i0.size = size) (hz2 : i0.bytes = by') (hzs : z.cells.size = size) (hsz : 0 < size) (hby : by' ≤ 1000)
    (base : Nat) (v : Value) (n : Nat) (xs : List Value) (hs : a.eval s = v) (hown : w.ownsRow base e size v n xs) (k : Nat) (ys : List Value) (hx : a.eval x = .slice (some ⟨k, 0, none⟩) 1 1) (hyl : ys.length = size) (hy : ∀ j u, ys[j]? = some u → w.cell? ⟨k, j, none⟩ = some u) (hone : ∀ u ∈ ys, u.oneCell' = true) (hn : n + 1 ≤ 1000) (hbase : base ≤ w.heap.size)
    (h : ∀ p c w', w'.ownsRow base e size (.slice p (n + 1) c) (n + 1) (xs ++ ys) → w.grownBy w' v.ownBlock → ((Value.slice p (n + 1) c).ownBlock = v.ownBlock ∨ (Value.slice p (n + 1) c).ownBlock = some w.heap.size) → K (a.put o.dst (.slice p (n + 1) c)) w') :
    if Region.wanted o (yielded ops a.tmps) = true then Oper.wp Tryd.prog o a w K Q else E := by
  have hw : Region.wanted o (yielded ops a.tmps) = true := by simp [Region.wanted, hg]
  rw [if_pos hw]
  obtain ⟨v', w', hr, h2, h3, h4⟩ := run_append_el (P := Tryd.prog) w base T o.type e i0 z size by' ht hi hz0 hz1 hz2 hzs hsz v n xs hown k ys hyl hy hone (by unfold maxLen; omega) (Nat.le_trans (Nat.mul_le_mul hn hby) (by decide)) hbase
  obtain ⟨p, c, rfl⟩ := ownsRow_slice h2
  unfold Oper.wp execOp
  simp only [ho, resolve, invoke, builtin, Sem.run_bind, Sem.run_pure, Result.andThen_ok, List.map_toArray, List.map_cons, List.map_nil, hs, hx, hr]
  exact h p c w' h2 h3 h4

/-- The list of the kids of a shape in memory, all of whose lists lie in a stretch of blocks. -/
def Rd3R (lo hi : Nat) (w : World) (v : Value) (n : Nat) (x : Nat → Shp) (y : Nat → Value → Prop) : Prop :=
  ∃ (p : Option Addr) (cap : Nat), v = .slice p n cap ∧ (n ≤ 1000 ∧ n ≤ cap) ∧
    (n = 0 ∨ ∃ b off, p = some ⟨b, off, none⟩ ∧ (lo ≤ b ∧ b < hi) ∧ ∀ i, i < n → ∃ q c, w.cell? ⟨b, off + i * 3, none⟩ = some (.int .u8 (x i).k) ∧ w.cell? ⟨b, off + i * 3 + 1, none⟩ = some (.string (mkS (x i).nm)) ∧ w.cell? ⟨b, off + i * 3 + 2, none⟩ = some (.slice q (x i).n c) ∧ y i (.slice q (x i).n c))
def KidR (lo hi : Nat) : Nat → World → Value → Shp → Prop
  | 0, _, _, _ => False
  | d + 1, w, v, s => (s.k < 256 ∧ s.nm.length ≤ 1000000) ∧ Rd3R lo hi w v s.n s.kid fun i u => KidR lo hi d w u (s.kid i)
theorem KidR.kid : ∀ {lo hi d : Nat} {w : World} {v : Value} {s : Shp}, KidR lo hi d w v s → KidIn d w v s
  | lo, hi, 0, w, v, s, h => h
  | lo, hi, d + 1, w, v, s, h => by
    obtain ⟨h1, p, cap, e, h2, h3⟩ := h
    refine ⟨h1, p, cap, e, h2, ?_⟩
    rcases h3 with h3 | ⟨b, off, e2, _, h3⟩
    · exact .inl h3
    · refine .inr ⟨b, off, e2, fun i hi => ?_⟩
      obtain ⟨q, c, g1, g2, g3, g4⟩ := h3 i hi
      exact ⟨q, c, g1, g2, g3, KidR.kid g4⟩
theorem KidR.at : ∀ {lo hi lo' hi' d : Nat} {w w' : World} {v : Value} {s : Shp}, KidR lo hi d w v s → lo' ≤ lo → hi ≤ hi' → (∀ k, lo ≤ k → k < hi → w'.heap[k]? = w.heap[k]?) → KidR lo' hi' d w' v s
  | lo, hi, lo', hi', 0, w, w', v, s, h, _, _, _ => h
  | lo, hi, lo', hi', d + 1, w, w', v, s, h, hlo, hhi, hw => by
    obtain ⟨h1, p, cap, e, h2, h3⟩ := h
    refine ⟨h1, p, cap, e, h2, ?_⟩
    rcases h3 with h3 | ⟨b, off, e2, hb, h3⟩
    · exact .inl h3
    · refine .inr ⟨b, off, e2, ⟨by omega, by omega⟩, fun i hi => ?_⟩
      obtain ⟨q, c, g1, g2, g3, g4⟩ := h3 i hi
      have hc : ∀ o, w'.cell? ⟨b, o, none⟩ = w.cell? ⟨b, o, none⟩ := fun o => World.cell?_of_block (w := w) (hw b hb.1 hb.2)
      exact ⟨q, c, by rw [hc]; exact g1, by rw [hc]; exact g2, by rw [hc]; exact g3, KidR.at g4 hlo hhi hw⟩
theorem KidR.form {lo hi d : Nat} {w : World} {v : Value} {s : Shp} (h : KidR lo hi d w v s) : ∃ p c, v = .slice p s.n c := h.kid.form
end Go.Proofs.YtfhnigpjmljhbaaDoor.Or
