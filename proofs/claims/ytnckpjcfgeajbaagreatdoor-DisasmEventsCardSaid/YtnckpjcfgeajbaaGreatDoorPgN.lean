/-
  The contracts of ValidName, the program's and the specification's: whether a string is a name.
-/
import Derived.Test.YtnckpjcfgeajbaaGreatDoorPgC
import Derived.WalkSpells
namespace Go.Proofs.YtnckpjcfgeajbaaGreatDoor
open Go Go.RowKit

theorem nameNo1 {s : ByteArray} (h : s.size < 1 ∨ 16 < s.size) : nameB s = false := by
  unfold nameB
  rcases h with h | h
  · rw [decide_eq_false (show ¬ 1 ≤ s.size by omega)]; rfl
  · rw [decide_eq_false (show ¬ s.size ≤ 16 by omega), Bool.and_false]; rfl
theorem baGet {s : ByteArray} {k : Nat} (hk : k < s.size) : s.data.toList[k]? = some s[k] := by
  rw [List.getElem?_eq_getElem (by simpa using hk)]; rfl
theorem baZero {s : ByteArray} (h0 : 0 < s.size) : s.data.toList.getD 0 0 = s[0] := by
  rw [List.getD_eq_getElem?_getD, baGet h0]; rfl
theorem nameNo2 {s : ByteArray} (h0 : 0 < s.size) (h : letB s[0] = false) : nameB s = false := by
  unfold nameB
  rw [baZero h0, h, Bool.and_false, Bool.false_and]
theorem nameNoK {s : ByteArray} {k : Nat} (hk : k < s.size) (h : tailB s[k] = false) : nameB s = false := by
  unfold nameB
  rw [Bool.and_eq_false_iff]
  refine .inr ?_
  rw [List.all_eq_false]
  exact ⟨s[k], List.mem_of_getElem? (baGet hk), by rw [h]; decide⟩
theorem nameYes {s : ByteArray} (h1 : 1 ≤ s.size) (h2 : s.size ≤ 16) (h3 : letB s[0] = true) (h4 : ∀ k (hk : k < s.size), tailB s[k] = true) : nameB s = true := by
  unfold nameB
  rw [baZero h1, h3, decide_eq_true h1, decide_eq_true h2, Bool.and_true, Bool.true_and, Bool.true_and, List.all_eq_true]
  intro x hx
  obtain ⟨k, hk, rfl⟩ := List.getElem_of_mem hx
  have hk' : k < s.size := by simpa using hk
  exact h4 k hk'
theorem allNext {s : ByteArray} {k : Nat} (HA : ∀ j (hj : j < s.size), j < k → tailB s[j] = true) (hk : k < s.size) (h : tailB s[k] = true) : ∀ j (hj : j < s.size), j < k + 1 → tailB s[j] = true := fun j hj hlt => by
  rcases Nat.lt_or_ge j k with h' | h'
  · exact HA j hj h'
  · have e : j = k := by omega
    subst e
    exact h
set_option maxHeartbeats 1000000 in
theorem iValidName (s : ByteArray) (hs : s.size ≤ maxLen) (w : World) : Calls Tryz.prog 195 #[.string s] w fun e w' => e = .returned (.bool (nameB s)) ∧ w = w' := by
  unfold maxLen at hs
  by_cases h1 : s.size < 1
  · have HN := Lib.hid (nameNo1 (s := s) (.inl h1))
    go_enter Tryz.func195, Tryz.ntmps195
    go_wp2
    go_ret
    exact ⟨retBl HN.out.symm, rfl⟩
  by_cases h2 : 16 < s.size
  · have HN := Lib.hid (nameNo1 (s := s) (.inr h2))
    go_enter Tryz.func195, Tryz.ntmps195
    go_wp2
    go_ret
    exact ⟨retBl HN.out.symm, rfl⟩
  have h1' : 0 < s.size := by omega
  cases h3 : letB s[0]
  · have HN := Lib.hid (nameNo2 h1' h3)
    have HI := Lib.hid (iLetter s[0] w)
    rw [h3] at HI
    clear h3
    go_enter Tryz.func195, Tryz.ntmps195
    go_wp2_with (go_at_call 210; refine HI.out.mono ?_; rintro e w' ⟨rfl, rfl⟩)
    go_ret
    exact ⟨retBl HN.out.symm, rfl⟩
  have HI := Lib.hid (iLetter s[0] w)
  rw [h3] at HI
  have H3 := Lib.hid h3
  clear h3
  go_enter Tryz.func195, Tryz.ntmps195
  go_wp2_with (go_at_call 210; refine HI.out.mono ?_; rintro e w' ⟨rfl, rfl⟩)
  go_loop [21] (fun i => ∃ k : Nat, k ≤ s.size ∧ i = .int .i64 k ∧ Hid (∀ j (hj : j < s.size), j < k → tailB s[j] = true)) (fun i => s.size - (intOf i).toNat)
  case atStart => exact ⟨0, Nat.zero_le _, rfl, Lib.hid fun j _ h => by omega⟩
  case round =>
    obtain ⟨k, hk, rfl, HA⟩ := hrel
    by_cases hlt : k < s.size
    · obtain ⟨c, hc⟩ : ∃ c, s[k] = c := ⟨_, rfl⟩
      have HC := Lib.hid hc
      have HI1 := Lib.hid (iLetter c w)
      have HI2 := Lib.hid (iDigit c w)
      obtain ⟨b1, hb1⟩ : ∃ b, letB c = b := ⟨_, rfl⟩
      obtain ⟨b2, hb2⟩ : ∃ b, digB c = b := ⟨_, rfl⟩
      have HT : Hid (tailB c = (b1 || b2 || decide (c.toNat = 95))) := by unfold tailB; rw [hb1, hb2]; exact Lib.hid rfl
      rw [hb1] at HI1
      rw [hb2] at HI2
      clear hb1 hb2
      cases b1
      · cases b2
        · by_cases h95 : c.toNat = 95
          · have e95 : ((c.toNat : Int) != 95) = false := by simp; omega
            have HT2 := Lib.hid (show tailB s[k] = true by rw [HC.out, HT.out]; simp [h95])
            clear h95
            go_wp2_with (first | (go_at_call 210; refine HI1.out.mono ?_; rintro e w' ⟨rfl, rfl⟩) | (go_at_call 211; refine HI2.out.mono ?_; rintro e w' ⟨rfl, rfl⟩))
            go_round
            case rel => exact ⟨k + 1, by omega, by go_num, Lib.hid (allNext HA.out hlt HT2.out)⟩
            case measure => simp [intOf]; omega
          · have e95 : ((c.toNat : Int) != 95) = true := by simp; omega
            have HN := Lib.hid (nameNoK hlt (show tailB s[k] = false by rw [HC.out, HT.out]; simp [h95]))
            clear h95
            go_wp2_with (first | (go_at_call 210; refine HI1.out.mono ?_; rintro e w' ⟨rfl, rfl⟩) | (go_at_call 211; refine HI2.out.mono ?_; rintro e w' ⟨rfl, rfl⟩))
            go_ret
            exact ⟨retBl HN.out.symm, rfl⟩
        · have HT2 := Lib.hid (show tailB s[k] = true by rw [HC.out, HT.out]; rfl)
          go_wp2_with (first | (go_at_call 210; refine HI1.out.mono ?_; rintro e w' ⟨rfl, rfl⟩) | (go_at_call 211; refine HI2.out.mono ?_; rintro e w' ⟨rfl, rfl⟩))
          go_round
          case rel => exact ⟨k + 1, by omega, by go_num, Lib.hid (allNext HA.out hlt HT2.out)⟩
          case measure => simp [intOf]; omega
      · have HT2 := Lib.hid (show tailB s[k] = true by rw [HC.out, HT.out]; rfl)
        go_wp2_with (first | (go_at_call 210; refine HI1.out.mono ?_; rintro e w' ⟨rfl, rfl⟩) | (go_at_call 211; refine HI2.out.mono ?_; rintro e w' ⟨rfl, rfl⟩))
        go_round
        case rel => exact ⟨k + 1, by omega, by go_num, Lib.hid (allNext HA.out hlt HT2.out)⟩
        case measure => simp [intOf]; omega
    · have HN := Lib.hid (nameYes (s := s) (by omega) (by omega) H3.out fun j hj => HA.out j hj (by omega))
      go_wp2
      go_ret
      exact ⟨retBl HN.out.symm, rfl⟩
end Go.Proofs.YtnckpjcfgeajbaaGreatDoor
