/-
  The specification's classes of characters.
-/
import Derived.Test.YtnlhkeobfidjkaaDoorLexM
import Derived.Test.YtnlhkeobfidjkaaDoorRows
import Derived.WalkKit
import Derived.WalkSpells
import Derived.WalkLawsBesides
import Derived.Lib.Hide
import Derived.Below
import Derived.Test.YtnlhkeobfidjkaaDoorLxC
namespace Go.Proofs.YtnlhkeobfidjkaaDoor
open Go Go.RowKit

set_option maxHeartbeats 1000000 in
theorem rLetter (c : UInt8) (w : World) : Calls Tryd.prog 35 #[.int .u8 (c.toNat : Int)] w fun e w' => e = .returned (.bool (isLet c)) ∧ w = w' := by
  unfold isLet
  obtain ⟨n, hn⟩ : ∃ n, c.toNat = n := ⟨_, rfl⟩
  rw [hn]
  clear hn
  by_cases g1 : 97 ≤ n
  · by_cases g2 : n ≤ 122
    · go_enter Tryd.func35, Tryd.ntmps35
      go_wp2
      go_ret
      exact ⟨retBc (by first | (simp; done) | (simp; omega) | (rw [Bool.eq_iff_iff]; simp; omega)), rfl⟩
    · have g3 : ¬ n ≤ 90 := by omega
      have g4 : 65 ≤ n := by omega
      go_enter Tryd.func35, Tryd.ntmps35
      go_wp2
      all_goals first
        | (exfalso; omega)
        | (go_ret; exact ⟨retBc (by first | (simp; done) | (simp; omega) | (rw [Bool.eq_iff_iff]; simp; omega)), rfl⟩)
  · by_cases g4 : 65 ≤ n
    · by_cases g3 : n ≤ 90
      · go_enter Tryd.func35, Tryd.ntmps35
        go_wp2
        go_ret
        exact ⟨retBc (by first | (simp; done) | (simp; omega) | (rw [Bool.eq_iff_iff]; simp; omega)), rfl⟩
      · go_enter Tryd.func35, Tryd.ntmps35
        go_wp2
        go_ret
        exact ⟨retBc (by first | (simp; done) | (simp; omega) | (rw [Bool.eq_iff_iff]; simp; omega)), rfl⟩
    · go_enter Tryd.func35, Tryd.ntmps35
      go_wp2
      go_ret
      exact ⟨retBc (by first | (simp; done) | (simp; omega) | (rw [Bool.eq_iff_iff]; simp; omega)), rfl⟩
theorem rDigit (c : UInt8) (w : World) : Calls Tryd.prog 36 #[.int .u8 (c.toNat : Int)] w fun e w' => e = .returned (.bool (isDg c)) ∧ w = w' := by
  unfold isDg
  obtain ⟨n, hn⟩ : ∃ n, c.toNat = n := ⟨_, rfl⟩
  rw [hn]
  clear hn
  by_cases g1 : 48 ≤ n
  · by_cases g2 : n ≤ 57
    · go_enter Tryd.func36, Tryd.ntmps36
      go_wp2
      go_ret
      exact ⟨retBc (by first | (simp; done) | (simp; omega) | (rw [Bool.eq_iff_iff]; simp; omega)), rfl⟩
    · go_enter Tryd.func36, Tryd.ntmps36
      go_wp2
      go_ret
      exact ⟨retBc (by first | (simp; done) | (simp; omega) | (rw [Bool.eq_iff_iff]; simp; omega)), rfl⟩
  · go_enter Tryd.func36, Tryd.ntmps36
    go_wp2
    go_ret
    exact ⟨retBc (by first | (simp; done) | (simp; omega) | (rw [Bool.eq_iff_iff]; simp; omega)), rfl⟩
theorem u8eq (c d : UInt8) : ((c.toNat : Int) == (d.toNat : Int)) = (c == d) := by
  rcases h : c == d with _ | _
  · rw [beq_eq_false_iff_ne] at h ⊢
    intro e
    exact h (UInt8.toNat_inj.mp (by omega))
  · rw [beq_iff_eq] at h ⊢
    rw [h]
set_option maxHeartbeats 1000000 in
theorem rInWord (c : UInt8) (w : World) : Calls Tryd.prog 34 #[.int .u8 (c.toNat : Int)] w fun e w' => e = .returned (.bool (isWd c)) ∧ w = w' := by
  have HL := Lib.hid (fun X => rLetter c X)
  have HD := Lib.hid (fun X => rDigit c X)
  have h9 : ((c.toNat : Int) == 95) = (c == 95) := u8eq c 95
  unfold isWd
  generalize isLet c = a at HL ⊢
  generalize isDg c = b at HD ⊢
  generalize (c == 95) = d at h9 ⊢
  cases a
  · cases b
    · cases d
      · go_enter Tryd.func34, Tryd.ntmps34
        go_wp2_with (first | (go_at_call 35; refine (HL.out _).mono ?_; rintro e w' ⟨rfl, rfl⟩) | (go_at_call 36; refine (HD.out _).mono ?_; rintro e w' ⟨rfl, rfl⟩))
        go_ret
        exact ⟨rfl, rfl⟩
      · go_enter Tryd.func34, Tryd.ntmps34
        go_wp2_with (first | (go_at_call 35; refine (HL.out _).mono ?_; rintro e w' ⟨rfl, rfl⟩) | (go_at_call 36; refine (HD.out _).mono ?_; rintro e w' ⟨rfl, rfl⟩))
        go_ret
        exact ⟨rfl, rfl⟩
    · go_enter Tryd.func34, Tryd.ntmps34
      go_wp2_with (first | (go_at_call 35; refine (HL.out _).mono ?_; rintro e w' ⟨rfl, rfl⟩) | (go_at_call 36; refine (HD.out _).mono ?_; rintro e w' ⟨rfl, rfl⟩))
      go_ret
      exact ⟨rfl, rfl⟩
  · go_enter Tryd.func34, Tryd.ntmps34
    go_wp2_with (first | (go_at_call 35; refine (HL.out _).mono ?_; rintro e w' ⟨rfl, rfl⟩) | (go_at_call 36; refine (HD.out _).mono ?_; rintro e w' ⟨rfl, rfl⟩))
    go_ret
    exact ⟨rfl, rfl⟩
theorem symAt {k : Nat} (hk : k < 8) : ∃ h, (⟨#[40, 41, 123, 125, 44, 59, 61, 58]⟩ : ByteArray)[k]'h = symL[k]'(by simpa [symL] using hk) := by
  rcases (by omega : k = 0 ∨ k = 1 ∨ k = 2 ∨ k = 3 ∨ k = 4 ∨ k = 5 ∨ k = 6 ∨ k = 7) with rfl | rfl | rfl | rfl | rfl | rfl | rfl | rfl <;> exact ⟨by decide, rfl⟩
theorem symHit {c : UInt8} {k : Nat} (hk : k < symL.length) (h : symL[k] = c) : isSym c = true := by
  unfold isSym
  rw [List.contains_iff_mem, ← h]
  exact List.getElem_mem hk
theorem symNo {c : UInt8} (h : ∀ k (hk : k < symL.length), ¬ symL[k] = c) : isSym c = false := by
  unfold isSym
  rw [← Bool.not_eq_true, List.contains_iff_mem]
  intro hm
  obtain ⟨k, hk, e⟩ := List.getElem_of_mem hm
  exact h k hk e
set_option maxHeartbeats 1000000 in
theorem rSymbol (c : UInt8) (w : World) : Calls Tryd.prog 33 #[.int .u8 (c.toNat : Int)] w fun e w' => e = .returned (.bool (isSym c)) ∧ w = w' := by
  obtain ⟨r, hr⟩ : ∃ r, isSym c = r := ⟨_, rfl⟩
  rw [hr]
  have HR := Lib.hid hr
  clear hr
  go_enter Tryd.func33, Tryd.ntmps33
  go_wp2
  go_loopw [3] (fun i wr => ∃ k : Nat, k ≤ 8 ∧ i = .int .i64 k ∧ wr = w ∧ Hid (∀ j (hj : j < symL.length), j < k → ¬ symL[j] = c)) (fun i _ => 8 - (intOf i).toNat)
  case atStart => exact ⟨0, Nat.zero_le _, rfl, by trivial, Lib.hid fun j _ h => by omega⟩
  case round =>
    obtain ⟨k, hk, rfl, rfl, HA⟩ := hrel
    by_cases hlt : k < 8
    · have hkl : k < symL.length := by simpa [symL] using hlt
      obtain ⟨h0, h1⟩ := symAt hlt
      have hk0 : (0 : Int) ≤ k := by omega
      have hk1 : (k : Int) < 8 := by omega
      have H1 := Lib.hid h1
      have e1 := u8eq ((⟨#[40, 41, 123, 125, 44, 59, 61, 58]⟩ : ByteArray)[k]'h0) c
      rcases hb : ((⟨#[40, 41, 123, 125, 44, 59, 61, 58]⟩ : ByteArray)[k]'h0 == c) with _ | _
      · rw [hb] at e1
        have HX : Hid (∀ j (hj : j < symL.length), j < k + 1 → ¬ symL[j] = c) := Lib.hid fun j hj hlt => by
          rcases Nat.lt_or_ge j k with h' | h'
          · exact HA.out j hj h'
          · have e : j = k := by omega
            subst e
            rw [← H1.out]
            simpa using hb
        clear hb h1
        go_wp2
        go_roundw
        case rel => exact ⟨k + 1, by omega, by go_num, by trivial, HX⟩
        case measure => simp [intOf]; omega
      · rw [hb] at e1
        have HX := Lib.hid ((symHit hkl (by rw [← H1.out]; simpa using hb)).symm.trans HR.out)
        clear hb h1
        go_wp2
        go_ret
        exact ⟨retBc HX.out, rfl⟩
    · have HX := Lib.hid (Eq.trans (symNo fun j hj => HA.out j hj (by simp [symL] at hj; omega)).symm HR.out)
      go_wp2
      go_ret
      exact ⟨retBc HX.out, rfl⟩
end Go.Proofs.YtnlhkeobfidjkaaDoor
