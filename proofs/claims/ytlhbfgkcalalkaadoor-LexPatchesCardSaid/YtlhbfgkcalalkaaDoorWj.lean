/- The contract of token, whole; of kind and of parts. -/
import Derived.Test.YtlhbfgkcalalkaaDoorWi
set_option linter.unusedVariables false
set_option linter.unusedSimpArgs false
namespace Go.Proofs.YtlhbfgkcalalkaaDoor
open Go.RowKit Go.WideMaps Go.Maps

theorem cls3 (b : Nat) (h : cls b = 3) : 48 ≤ b ∧ b ≤ 57 := by unfold cls at h; grind
theorem dig_take (l : List UInt8) : Dig (l.takeWhile (ofCls [3])) := fun c hc => by
  have := List.all_takeWhile (p := ofCls [3]) (l := l)
  rw [List.all_eq_true] at this
  have := this c hc
  simp [ofCls] at this
  exact cls3 _ this

set_option maxRecDepth 100000 in
set_option maxHeartbeats 2000000 in
theorem token_number (g : Value) (s : ByteArray) (at_ : Nat) (w : World) (hs : s.size ≤ 281474976710656) (ha : at_ < s.size) (hg : Gram w g) (he : ErrOk w) (hc : cls (s[at_].toNat) = 3) :
    Calls Tryd.prog 22 #[g, .string s, .int .i64 at_] w fun e w' => e = .returned (tokOut (numK ((s.data.toList.drop at_).takeWhile (ofCls [3]))) (mkS ((s.data.toList.drop at_).takeWhile (ofCls [3]))) at_) ∧ Below w.heap.size w w' := by
  have hml : s.size ≤ maxLen := by unfold maxLen; omega
  have CP : Hid (∀ (W : World) (n : Nat), n = W.heap.size → Calls Tryd.prog 21 #[.string s, .int .i64 at_, .slice (some ⟨n, 0, none⟩) 1 1] (W.alloc (.cells #[.int .u8 3] 56)) fun e w' => e = .returned (.int .i64 (pst (ofCls [3]) s.data.toList at_)) ∧ (W.alloc (.cells #[.int .u8 3] 56)) = w') := fun W n hn => by
    subst hn; exact past_any s at_ [3] _ _ hml (by omega) (classes1 W _ 3)
  obtain ⟨p, hp⟩ : ∃ p, p = pst (ofCls [3]) s.data.toList at_ := ⟨_, rfl⟩
  have hp1 : at_ ≤ p := by rw [hp]; exact pst_ge _ _ _
  have hp2 : p ≤ s.size := by rw [hp]; have := pst_le (ofCls [3]) s.data.toList at_ (by simp; omega); simpa using this
  have hx : s.extract at_ p = mkS ((s.data.toList.drop at_).takeWhile (ofCls [3])) := by rw [hp]; exact pst_text _ _ _
  rw [← hp] at CP
  obtain ⟨x, hxx⟩ : ∃ x, x = (s.data.toList.drop at_).takeWhile (ofCls [3]) := ⟨_, rfl⟩
  have hxl : (mkS x).size ≤ 281474976710656 := by
    rw [mkS_size, hxx]
    have := (List.takeWhile_prefix (ofCls [3]) (l := s.data.toList.drop at_)).length_le
    have h2 : s.data.toList.length = s.size := by simp
    simp at this; omega
  have hxd : Dig x := by rw [hxx]; exact dig_take _
  have hx0 : x ≠ [] := by
    rw [hxx, List.drop_eq_getElem_cons (by simpa using ha), List.takeWhile_cons, if_pos (by simp [ofCls]; exact hc)]; simp
  rw [← hxx] at hx
  rw [← hxx]
  have CW : Hid (∀ W, Below w.heap.size w W → Calls Tryd.prog 46 #[.string (s.extract at_ p), .int .i64 at_] W fun e w' => e = .returned (.tuple #[.agg #[.int .u8 (tkK (numK x)), .string (tkT (numK x) (mkS x)), .int .i64 (tkA (numK x) at_)], .bool (numK x).isSome]) ∧ Below W.heap.size W w') := fun W hb => by
    have := number_any (mkS x) at_ W hxl (by rw [mkS_list]; exact hxd) (by rw [mkS_list]; exact hx0) (he.below hb)
    rw [mkS_list] at this; rw [hx]; exact this
  have hHC := Lib.hid hc
  have hcl : ((cls (s[at_].toNat) : Int) == 2) = false := by rw [hc]; rfl
  have hcl3 : ((cls (s[at_].toNat) : Int) == 3) = true := by rw [hc]; rfl
  clear hp hxx hx hc hxd hx0 he
  obtain ⟨mb, sb, rfl, _⟩ := hg
  go_enter Tryd.func22, Tryd.ntmps22
  go_wp2_with (first | (go_at_call 40; refine (classOf_any _ _).mono ?_; rintro e w' ⟨rfl, rfl⟩) | (go_at_call 21; refine (CP.out _ _ (by simp)).mono ?_; rintro e w' ⟨rfl, rfl⟩))
  refine (CW.out _ ((((Below.refl _ _).alloc (Nat.le_refl _) _).alloc (by simp) _).alloc (by simp; omega) _)).mono ?_
  rintro e w1 ⟨rfl, hb⟩
  obtain ⟨hcb, hfb⟩ := bcell hb
  go_wp2
  refine bodyPost_ret (v := tokOut (numK x) (mkS x) at_) (by simp [results, Tryd.results22, go_sem, tokOut, hcb]) rfl ⟨rfl, ?_⟩
  repeat (refine Below.setCell ?_ (by simp) _)
  exact ((((Below.refl _ _).alloc (Nat.le_refl _) _).alloc (by simp) _).alloc (by simp; omega) _).trans (hb.mono (by simp; omega))

theorem signOut_out (o : Option (List UInt8)) (at_ : Int) : signOut o at_ = tokOut (o.map fun _ => 4) (mkS (o.getD [])) at_ := by cases o <;> rfl

set_option maxRecDepth 100000 in
set_option maxHeartbeats 2000000 in
theorem token_sign (g : Value) (s : ByteArray) (at_ : Nat) (w : World) (hs : s.size ≤ 281474976710656) (ha : at_ < s.size) (hg : Gram w g) (hc2 : cls (s[at_].toNat) ≠ 2) (hc3 : cls (s[at_].toNat) ≠ 3) :
    Calls Tryd.prog 22 #[g, .string s, .int .i64 at_] w fun e w' => e = .returned (tokOut ((signAt (s.data.toList.drop at_)).map fun _ => 4) (mkS ((signAt (s.data.toList.drop at_)).getD [])) at_) ∧ Below w.heap.size w w' := by
  have hml : s.size ≤ maxLen := by unfold maxLen; omega
  have CW : Hid (∀ W, Below w.heap.size w W → Calls Tryd.prog 47 #[g, .string s, .int .i64 at_] W fun e w' => e = .returned (tokOut ((signAt (s.data.toList.drop at_)).map fun _ => 4) (mkS ((signAt (s.data.toList.drop at_)).getD [])) at_) ∧ Below W.heap.size W w') := fun W hb => by
    have := sign_any g s at_ W hml (by omega) (hg.below hb)
    rw [signOut_out] at this; exact this
  obtain ⟨k, hk⟩ : ∃ k, k = (signAt (s.data.toList.drop at_)).map fun _ => 4 := ⟨_, rfl⟩
  obtain ⟨x, hx⟩ : ∃ x, x = (signAt (s.data.toList.drop at_)).getD [] := ⟨_, rfl⟩
  rw [← hk, ← hx] at CW ⊢
  unfold tokOut at CW
  have hcl : ((cls (s[at_].toNat) : Int) == 2) = false := by rw [beq_eq_false_iff_ne]; omega
  have hcl3 : ((cls (s[at_].toNat) : Int) == 3) = false := by rw [beq_eq_false_iff_ne]; omega
  clear hk hx hc2 hc3
  obtain ⟨mb, sb, rfl, _⟩ := hg
  go_enter Tryd.func22, Tryd.ntmps22
  go_wp2_with (go_at_call 40; refine (classOf_any _ _).mono ?_; rintro e w' ⟨rfl, rfl⟩)
  refine (CW.out _ (((Below.refl _ _).alloc (Nat.le_refl _) _).alloc (by simp) _)).mono ?_
  rintro e w1 ⟨rfl, hb⟩
  obtain ⟨hcb, hfb⟩ := bcell hb
  go_wp2
  refine bodyPost_ret (v := tokOut k (mkS x) at_) (by simp [results, Tryd.results22, go_sem, tokOut, hcb]) rfl ⟨rfl, ?_⟩
  repeat (refine Below.setCell ?_ (by simp) _)
  exact (((Below.refl _ _).alloc (Nat.le_refl _) _).alloc (by simp) _).trans (hb.mono (by simp; omega))

set_option maxRecDepth 100000 in
set_option maxHeartbeats 2000000 in
theorem token_end (g : Value) (s : ByteArray) (at_ : Nat) (w : World) (hs : s.size ≤ 281474976710656) (ha : ¬ at_ < s.size) (hle : at_ ≤ s.size) (hg : Gram w g) :
    Calls Tryd.prog 22 #[g, .string s, .int .i64 at_] w fun e w' => e = .returned (tokOut none (mkS []) at_) ∧ Below w.heap.size w w' := by
  obtain ⟨mb, sb, rfl, _⟩ := hg
  go_enter Tryd.func22, Tryd.ntmps22
  go_wp2
  refine bodyPost_ret (v := tokOut none (mkS []) at_) (by simp [results, Tryd.results22, go_sem, tokOut, tkK, tkT, tkA]) rfl ⟨rfl, ?_⟩
  exact (((Below.refl _ _).alloc (Nat.le_refl _) _).alloc (by simp) _)

theorem token_any (g : Value) (s : ByteArray) (at_ : Nat) (w : World) (hs : s.size ≤ 281474976710656) (ha : at_ ≤ s.size) (hg : Gram w g) (he : ErrOk w) :
    Calls Tryd.prog 22 #[g, .string s, .int .i64 at_] w fun e w' => e = .returned (tokOut (tokR (s.data.toList.drop at_)).1 (mkS (tokR (s.data.toList.drop at_)).2) at_) ∧ Below w.heap.size w w' := by
  by_cases hlt : at_ < s.size
  · have hd : s.data.toList.drop at_ = s[at_] :: s.data.toList.drop (at_ + 1) := List.drop_eq_getElem_cons (by simpa using hlt)
    by_cases h2 : cls (s[at_].toNat) = 2
    · have e : tokR (s.data.toList.drop at_) = (wordK ((s.data.toList.drop at_).takeWhile (ofCls [2, 3])), (s.data.toList.drop at_).takeWhile (ofCls [2, 3])) := by
        rw [hd]; simp only [tokR, h2, if_true]
      rw [e]; exact token_word g s at_ w hs hlt hg h2
    · by_cases h3 : cls (s[at_].toNat) = 3
      · have e : tokR (s.data.toList.drop at_) = (numK ((s.data.toList.drop at_).takeWhile (ofCls [3])), (s.data.toList.drop at_).takeWhile (ofCls [3])) := by
          rw [hd]; simp only [tokR, h3, if_true]; rfl
        rw [e]; exact token_number g s at_ w hs hlt hg he h3
      · have e : tokR (s.data.toList.drop at_) = ((signAt (s.data.toList.drop at_)).map (fun _ => 4), (signAt (s.data.toList.drop at_)).getD []) := by
          rw [hd]; simp only [tokR, h2, h3, if_false]
          cases signAt (s[at_] :: s.data.toList.drop (at_ + 1)) <;> rfl
        rw [e]; exact token_sign g s at_ w hs hlt hg h2 h3
  · have e : tokR (s.data.toList.drop at_) = (none, []) := by
      rw [List.drop_of_length_le (by simp; omega)]; rfl
    rw [e]; exact token_end g s at_ w hs hlt ha hg
end Go.Proofs.YtlhbfgkcalalkaaDoor
