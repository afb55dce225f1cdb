/-
  Plain facts about the reference's search by distance: what its loops keep. Without any program.
-/
import Derived.Test.YtpfdhjmhoggioaaTabM
namespace Go.Proofs.Ytpfdhjmhoggioaa

/-- In round d, with the elements below a gone through. -/
noncomputable def disTo (n : Nat) (f : Nat → Nat → Bool) (t d a x : Nat) : Nat := if x < a then dsU n f t d x else dsU n f t (d - 1) x
theorem disStart {n : Nat} {f : Nat → Nat → Bool} {t x : Nat} : disTo n f t 1 0 x = 0 := by unfold disTo; rw [if_neg (by omega), dsUzero]
theorem disRow {n : Nat} {f : Nat → Nat → Bool} {t d x : Nat} (hx : x < n) : disTo n f t d n x = disTo n f t (d + 1) 0 x := by
  unfold disTo
  rw [if_pos hx, if_neg (by omega), Nat.add_sub_cancel]
theorem disEnd {n : Nat} {f : Nat → Nat → Bool} {t x : Nat} (hx : x < n) : disTo n f t (n + 1) 0 x = dst n f x t := by
  unfold disTo
  rw [if_neg (by omega), Nat.add_sub_cancel, dsUall (dstMax hx)]
/-- What the test of the inner loop says at b. -/
noncomputable def disHit (n : Nat) (f : Nat → Nat → Bool) (t d a b : Nat) : Bool := f a b && ((decide (d = 1) && decide (b = t)) || (decide (1 < d) && decide (disTo n f t d a b = d - 1)))
noncomputable def disAny (n : Nat) (f : Nat → Nat → Bool) (t d a k : Nat) : Bool := (List.range k).any fun b => disHit n f t d a b
theorem disAnySucc {n : Nat} {f : Nat → Nat → Bool} {t d a k : Nat} : disAny n f t d a (k + 1) = (disAny n f t d a k || disHit n f t d a k) := by
  unfold disAny
  rw [List.range_succ, List.any_append, List.any_cons, List.any_nil, Bool.or_false]
theorem disPrev {n : Nat} {f : Nat → Nat → Bool} {t d a b : Nat} (hd : 1 < d) : disTo n f t d a b = d - 1 ↔ dst n f b t = d - 1 := by
  unfold disTo dsU
  repeat' split
  all_goals omega
theorem disAnyIff {n : Nat} {f : Nat → Nat → Bool} {t d a : Nat} (hd : 0 < d) (ht : t < n) : disAny n f t d a n = true ↔ ((d - 1 = 0 ∧ f a t = true) ∨ (0 < d - 1 ∧ ∃ x, x < n ∧ f a x = true ∧ dst n f x t = d - 1)) := by
  unfold disAny
  rw [List.any_eq_true]
  constructor
  · rintro ⟨b, hb, h⟩
    have hb := List.mem_range.1 hb
    unfold disHit at h
    rw [Bool.and_eq_true, Bool.or_eq_true, Bool.and_eq_true, Bool.and_eq_true, decide_eq_true_iff, decide_eq_true_iff, decide_eq_true_iff, decide_eq_true_iff] at h
    obtain ⟨h1, ⟨h2, rfl⟩ | ⟨h2, h3⟩⟩ := h
    · exact .inl ⟨by omega, h1⟩
    · exact .inr ⟨by omega, b, hb, h1, (disPrev h2).1 h3⟩
  · rintro (⟨h1, h2⟩ | ⟨h1, x, h2, h3, h4⟩)
    · refine ⟨t, List.mem_range.2 ht, ?_⟩
      unfold disHit
      rw [h2, decide_eq_true (show d = 1 by omega), decide_eq_true rfl]
      rfl
    · refine ⟨x, List.mem_range.2 h2, ?_⟩
      unfold disHit
      rw [h3, decide_eq_true (show 1 < d by omega), decide_eq_true ((disPrev (by omega)).2 h4)]
      simp
theorem disSucc {n : Nat} {f : Nat → Nat → Bool} {t d a : Nat} (hd : 0 < d) (ht : t < n) : dsU n f t d a = if dsU n f t (d - 1) a ≠ 0 then dsU n f t (d - 1) a else if disAny n f t d a n = true then d else 0 := by
  obtain ⟨e, rfl⟩ : ∃ e, d = e + 1 := ⟨d - 1, by omega⟩
  rw [Nat.add_sub_cancel, dsUsucc]
  by_cases h : disAny n f t (e + 1) a n = true
  · have h1 := (disAnyIff hd ht).1 h
    rw [Nat.add_sub_cancel] at h1
    simp only [if_pos h, if_pos h1]
  · have h1 : ¬ ((e = 0 ∧ f a t = true) ∨ (0 < e ∧ ∃ x, x < n ∧ f a x = true ∧ dst n f x t = e)) := fun h1 => h ((disAnyIff hd ht).2 (by rw [Nat.add_sub_cancel]; exact h1))
    simp only [if_neg h, if_neg h1]
theorem disAt {n : Nat} {f : Nat → Nat → Bool} {t d a : Nat} : disTo n f t d a a = dsU n f t (d - 1) a := by unfold disTo; rw [if_neg (by omega)]
theorem disSet {n : Nat} {f : Nat → Nat → Bool} {t d a : Nat} (hd : 0 < d) (ht : t < n) (h0 : disTo n f t d a a = 0) (h : disAny n f t d a n = true) (x : Nat) : (if x = a then d else disTo n f t d a x) = disTo n f t d (a + 1) x := by
  rw [disAt] at h0
  by_cases e : x = a
  · subst e
    rw [if_pos rfl]
    unfold disTo
    rw [if_pos (by omega), disSucc hd ht, if_neg (by rw [h0]; simp), if_pos h]
  · rw [if_neg e]
    unfold disTo
    by_cases h1 : x < a
    · rw [if_pos h1, if_pos (by omega)]
    · rw [if_neg h1, if_neg (by omega)]
theorem disKeep {n : Nat} {f : Nat → Nat → Bool} {t d a : Nat} (hd : 0 < d) (ht : t < n) (h : disTo n f t d a a ≠ 0 ∨ disAny n f t d a n = false) (x : Nat) : disTo n f t d a x = disTo n f t d (a + 1) x := by
  rw [disAt] at h
  by_cases e : x = a
  · subst e
    rw [disAt]
    unfold disTo
    rw [if_pos (by omega), disSucc hd ht]
    by_cases h0 : dsU n f t (d - 1) x = 0
    · rw [if_neg (by rw [h0]; simp), if_neg (by rw [h.resolve_left (by rw [h0]; simp)]; simp), h0]
    · rw [if_pos h0]
  · unfold disTo
    by_cases h1 : x < a
    · rw [if_pos h1, if_pos (by omega)]
    · rw [if_neg h1, if_neg (by omega)]
end Go.Proofs.Ytpfdhjmhoggioaa
