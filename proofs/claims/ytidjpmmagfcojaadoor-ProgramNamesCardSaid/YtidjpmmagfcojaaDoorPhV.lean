/-
  The contract of the specification's ValidName.
-/
import Derived.Test.YtidjpmmagfcojaaDoorPhG
import Derived.WalkSpells
namespace Go.Proofs.YtidjpmmagfcojaaDoor
open Go Go.RowKit

/-- Byte number k of s keeps it a name. -/
def okAt (s : ByteArray) (k : Nat) : Prop := ∀ (hk : k < s.size), (k = 0 → letB s[k] = true) ∧ tailB s[k] = true
theorem okYes {s : ByteArray} (h1 : 1 ≤ s.size) (h2 : s.size ≤ 16) (h : ∀ k, k < s.size → okAt s k) : true = nameB s :=
  (nameYes h1 h2 ((h 0 h1 h1).1 rfl) fun k hk => (h k hk hk).2).symm
theorem okNo {s : ByteArray} {k : Nat} (hk : k < s.size) (h : ¬ okAt s k) : false = nameB s := by
  cases e : nameB s
  · rfl
  refine absurd (fun hk' => ⟨fun h0 => ?_, ?_⟩) h
  · subst h0
    cases e2 : letB s[0]
    · rw [nameNo2 hk e2] at e; cases e
    · rfl
  · cases e2 : tailB s[k]
    · rw [nameNoK hk e2] at e; cases e
    · rfl
theorem okNext {s : ByteArray} {k : Nat} (HA : ∀ j, j < k → okAt s j) (h : okAt s k) : ∀ j, j < k + 1 → okAt s j := fun j hlt => by
  rcases Nat.lt_or_ge j k with h' | h'
  · exact HA j h'
  · have e : j = k := by omega
    subst e
    exact h
theorem okAtIs {s : ByteArray} {k : Nat} (hk : k < s.size) : okAt s k ↔ (k = 0 → (97 ≤ s[k].toNat ∧ s[k].toNat ≤ 122) ∨ (65 ≤ s[k].toNat ∧ s[k].toNat ≤ 90)) ∧ ((97 ≤ s[k].toNat ∧ s[k].toNat ≤ 122) ∨ (65 ≤ s[k].toNat ∧ s[k].toNat ≤ 90) ∨ (48 ≤ s[k].toNat ∧ s[k].toNat ≤ 57) ∨ s[k].toNat = 95) := by
  have e : okAt s k ↔ (k = 0 → letB s[k] = true) ∧ tailB s[k] = true := ⟨fun h => ⟨fun h0 => by subst h0; exact (h hk).1 rfl, (h hk).2⟩, fun h hk' => ⟨fun h0 => by have := h.1 h0; subst h0; exact this, h.2⟩⟩
  rw [e]
  unfold tailB letB digB
  simp only [Bool.or_eq_true, Bool.and_eq_true, decide_eq_true_eq]
  omega
set_option linter.unusedSimpArgs false in
set_option maxHeartbeats 4000000 in
theorem rValidName (s : ByteArray) (hs : s.size ≤ maxLen) (w : World) : Calls Tryd.prog 19 #[.string s] w fun e w' => e = .returned (.bool (nameB s)) ∧ w = w' := by
  unfold maxLen at hs
  by_cases h1 : s.size < 1
  · have HN := Lib.hid (nameNo1 (s := s) (.inl h1))
    go_enter Tryd.func19, Tryd.ntmps19
    go_wp2
    all_goals first
      | (exfalso; omega)
      | (go_ret; exact ⟨retBl HN.out.symm, rfl⟩)
  by_cases h2 : 16 < s.size
  · have HN := Lib.hid (nameNo1 (s := s) (.inr h2))
    go_enter Tryd.func19, Tryd.ntmps19
    go_wp2
    all_goals first
      | (exfalso; omega)
      | (go_ret; exact ⟨retBl HN.out.symm, rfl⟩)
  go_enter Tryd.func19, Tryd.ntmps19
  go_wp2
  all_goals (try (exfalso; omega))
  go_loop [3, 4, 5] (fun i _ _ => ∃ k : Nat, k ≤ s.size ∧ i = .int .i64 k ∧ Hid (∀ j, j < k → okAt s j)) (fun i _ _ => s.size - (intOf i).toNat)
  case atStart => exact ⟨0, Nat.zero_le _, rfl, Lib.hid fun j h => by omega⟩
  case round =>
    obtain ⟨k, hk, rfl, HA⟩ := hrel
    by_cases hlt : k < s.size
    · have ho := okAtIs hlt
      have hm9 := (s[k]).toNat_lt
      by_cases hk0 : k = 0
      · subst hk0
        have HO : Hid (okAt s 0 ↔ (97 ≤ s[0].toNat ∧ s[0].toNat ≤ 122) ∨ (65 ≤ s[0].toNat ∧ s[0].toNat ≤ 90)) := Lib.hid (by rw [ho]; simp only [true_implies]; omega)
        clear ho
        go_wp2
        all_goals (try simp only [beq_eq_false_iff_ne, bne_eq_false_iff_eq, ne_eq, beq_iff_eq, bne_iff_ne, Bool.not_eq_false', Bool.not_eq_true', decide_eq_true_eq, decide_eq_false_iff_not] at *)
        all_goals first
          | (exfalso; omega)
          | (go_ret; exact ⟨retBl (okNo hlt fun h => by have h := HO.out.1 h; omega), rfl⟩)
          | exact ⟨⟨0 + 1, by omega, by go_num, Lib.hid (okNext HA.out (HO.out.2 (by omega)))⟩, by simp [intOf]; omega⟩
      · have HO : Hid (okAt s k ↔ (97 ≤ s[k].toNat ∧ s[k].toNat ≤ 122) ∨ (65 ≤ s[k].toNat ∧ s[k].toNat ≤ 90) ∨ (48 ≤ s[k].toNat ∧ s[k].toNat ≤ 57) ∨ s[k].toNat = 95) := Lib.hid (by rw [ho]; simp only [hk0, false_implies, true_and])
        clear ho
        go_wp2
        all_goals (try simp only [beq_eq_false_iff_ne, bne_eq_false_iff_eq, ne_eq, beq_iff_eq, bne_iff_ne, Bool.not_eq_false', Bool.not_eq_true', decide_eq_true_eq, decide_eq_false_iff_not] at *)
        all_goals first
          | (exfalso; omega)
          | (go_ret; exact ⟨retBl (okNo hlt fun h => by have h := HO.out.1 h; omega), rfl⟩)
          | exact ⟨⟨k + 1, by omega, by go_num, Lib.hid (okNext HA.out (HO.out.2 (by omega)))⟩, by simp [intOf]; omega⟩
    · have HX := Lib.hid (okYes (s := s) (by omega) (by omega) fun j hj => HA.out j (by omega))
      go_wp2
      go_ret
      exact ⟨retBl HX.out, rfl⟩
end Go.Proofs.YtidjpmmagfcojaaDoor
