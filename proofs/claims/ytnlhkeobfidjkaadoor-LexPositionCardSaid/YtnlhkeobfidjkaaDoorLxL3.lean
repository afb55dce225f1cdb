/-
  The contracts of both Positions; the law LexPosition returns true for every text and offset.
-/
import Derived.Test.YtnlhkeobfidjkaaDoorLxX
import Derived.Test.YtnlhkeobfidjkaaDoorLxL1
namespace Go.Proofs.YtnlhkeobfidjkaaDoor
open Go Go.RowKit

/-- The line and the column of an offset. -/
def lnP (s : ByteArray) (k : Nat) : Nat := 1 + (s.data.toList.take k).count 10
def clP (s : ByteArray) (k : Nat) : Int := (k : Int) - Lib.lastIdx s 10 k
theorem lnZero (s : ByteArray) : lnP s 0 = 1 := by simp [lnP]
theorem clZero (s : ByteArray) : clP s 0 = 1 := by simp [clP, Lib.lastIdx]
section
variable {s : ByteArray} {k : Nat} (hk : k < s.size)
include hk
theorem takeS : s.data.toList.take (k + 1) = s.data.toList.take k ++ [s[k]] := List.take_succ_eq_append_getElem (l := s.data.toList) hk
theorem datAt : s.data[k]! = s[k] := by
  rw [getElem!_pos s.data k hk]; rfl
theorem lnHit (h : (s[k] == 10) = true) : lnP s (k + 1) = lnP s k + 1 := by
  unfold lnP
  rw [takeS hk, List.count_append, beq_iff_eq.1 h]
  simp; omega
theorem lnMiss (h : (s[k] == 10) = false) : lnP s (k + 1) = lnP s k := by
  unfold lnP
  rw [takeS hk, List.count_append, List.count_cons, h]
  simp
theorem clHit (h : (s[k] == 10) = true) : clP s (k + 1) = 1 := by
  unfold clP
  rw [Lib.lastIdx_hit s 10 k (by rw [datAt hk, beq_iff_eq.1 h]; rfl)]
  omega
theorem clMiss (h : (s[k] == 10) = false) : clP s (k + 1) = clP s k + 1 := by
  unfold clP
  rw [Lib.lastIdx_miss s 10 k (by
    rw [datAt hk]
    intro e
    rw [beq_eq_false_iff_ne] at h
    exact h (UInt8.toNat_inj.mp (by rw [show (10 : UInt8).toNat = 10 from rfl]; omega)))]
  omega
end
theorem lastLt (s : ByteArray) : ∀ k : Nat, -1 ≤ Lib.lastIdx s 10 k ∧ Lib.lastIdx s 10 k < k ∨ k = 0 ∧ Lib.lastIdx s 10 k = -1
  | 0 => .inr ⟨rfl, rfl⟩
  | k + 1 => by
    left
    rcases Lib.lastIdx_spec s 10 (k + 1) with ⟨e, _⟩ | ⟨i, hi, e, _⟩ <;> omega
theorem lastExt {s T : ByteArray} : ∀ k : Nat, (∀ j, j < k → T.data[j]! = s.data[j]!) → Lib.lastIdx T 10 k = Lib.lastIdx s 10 k
  | 0, _ => rfl
  | k + 1, h => by
    unfold Lib.lastIdx
    rw [h k (by omega), lastExt k fun j hj => h j (by omega)]
theorem extTake {s : ByteArray} {k : Nat} (hk : k ≤ s.size) : (s.extract 0 k).data.toList = s.data.toList.take k ∧ (s.extract 0 k).size = k ∧ ∀ j, j < k → (s.extract 0 k).data[j]! = s.data[j]! := by
  have e1 : (s.extract 0 k).data.toList = s.data.toList.take k := by rw [Lib.extract_data, List.drop_zero, Nat.sub_zero]
  have e2 : (s.extract 0 k).size = k := by rw [ByteArray.size_extract]; omega
  refine ⟨e1, e2, fun j hj => ?_⟩
  have h1 : j < (s.extract 0 k).data.size := by show j < (s.extract 0 k).size; omega
  have h2 : j < s.data.size := by show j < s.size; omega
  rw [getElem!_pos (s.extract 0 k).data j h1, getElem!_pos s.data j h2]
  simp
/-- What Position returns. -/
def posE (s : ByteArray) (a : Int) : Ending := if 0 ≤ a ∧ a ≤ s.size then .returned (.tuple #[.int .i64 (lnP s a.toNat), .int .i64 (clP s a.toNat), .bool true]) else .returned (.tuple #[.int .i64 0, .int .i64 0, .bool false])
set_option maxHeartbeats 1000000 in
theorem iPos (s : ByteArray) (a : Int) (hs : s.size ≤ 1000000) (w : World) : Calls Tryd.prog 14 #[.string s, .int .i64 a] w fun e w' => e = posE s a ∧ w = w' := by
  by_cases h1 : a < 0
  · unfold posE
    rw [if_neg (by omega)]
    go_enter Tryd.func14, Tryd.ntmps14
    go_wp2
    go_ret3
    exact ⟨rfl, rfl⟩
  by_cases h2 : (s.size : Int) < a
  · unfold posE
    rw [if_neg (by omega)]
    go_enter Tryd.func14, Tryd.ntmps14
    go_wp2
    go_ret3
    exact ⟨rfl, rfl⟩
  obtain ⟨k, rfl⟩ : ∃ k : Nat, a = (k : Int) := ⟨a.toNat, by omega⟩
  have hk : k ≤ s.size := by omega
  unfold posE
  rw [if_pos (by omega), Int.toNat_natCast]
  obtain ⟨e1, e2, e3⟩ := extTake hk
  have HC := Lib.hid (fun X => Tryd.strings_Count_one (s.extract 0 k) 10 X)
  have HL := Lib.hid (fun X => Tryd.strings_LastIndexByte (s.extract 0 k) 10 (by omega) X)
  have hl := lastLt s k
  have hc : Lib.countByte (s.extract 0 k).data.toList 10 = (s.data.toList.take k).count 10 := by rw [e1]; rfl
  have hll : Lib.lastIndexByte (s.extract 0 k) 10 = Lib.lastIdx s 10 k := by unfold Lib.lastIndexByte; rw [e2]; exact lastExt k e3
  have hcl : (s.data.toList.take k).count 10 ≤ 1000000 := by
    have := List.count_le_length (a := (10 : UInt8)) (l := s.data.toList.take k)
    rw [List.length_take] at this
    omega
  rw [hc] at HC
  rw [hll] at HL
  have HX := Lib.hid (show lnP s k = 1 + (s.data.toList.take k).count 10 from rfl)
  have HY := Lib.hid (show clP s k = (k : Int) - Lib.lastIdx s 10 k from rfl)
  generalize (s.data.toList.take k).count 10 = C at *
  generalize Lib.lastIdx s 10 k = D at *
  rw [HX.out, HY.out]
  clear HX HY e1 e2 e3 hc hll h1 h2
  go_enter Tryd.func14, Tryd.ntmps14
  go_wp2_with fail
  refine (HC.out _).mono ?_
  rintro e w1 ⟨rfl, rfl⟩
  go_wp2_with fail
  refine (HL.out _).mono ?_
  rintro e w1 ⟨rfl, rfl⟩
  go_wp2
  go_ret3
  exact ⟨by first | rfl | (congr 1), rfl⟩
set_option maxHeartbeats 1000000 in
theorem rPos (s : ByteArray) (a : Int) (hs : s.size ≤ 1000000) (w : World) : Calls Tryd.prog 15 #[.string s, .int .i64 a] w fun e w' => e = posE s a ∧ w = w' := by
  by_cases h1 : a < 0
  · unfold posE
    rw [if_neg (by omega)]
    go_enter Tryd.func15, Tryd.ntmps15
    go_wp2
    go_ret3
    exact ⟨rfl, rfl⟩
  by_cases h2 : (s.size : Int) < a
  · unfold posE
    rw [if_neg (by omega)]
    go_enter Tryd.func15, Tryd.ntmps15
    go_wp2
    go_ret3
    exact ⟨rfl, rfl⟩
  obtain ⟨n, rfl⟩ : ∃ k : Nat, a = (k : Int) := ⟨a.toNat, by omega⟩
  have hn : n ≤ s.size := by omega
  unfold posE
  rw [if_pos (by omega), Int.toNat_natCast]
  obtain ⟨L, hL⟩ : ∃ L, lnP s n = L := ⟨_, rfl⟩
  obtain ⟨C, hC⟩ : ∃ C, clP s n = C := ⟨_, rfl⟩
  rw [hL, hC]
  have HL := Lib.hid hL
  have HC := Lib.hid hC
  clear hL hC
  go_enter Tryd.func15, Tryd.ntmps15
  go_wp2
  go_loopw [7, 8, 9] (fun vl vc vi wr => ∃ (k l : Nat) (c : Int), k ≤ n ∧ vi = .int .i64 k ∧ vl = .int .i64 l ∧ vc = .int .i64 c ∧ wr = w ∧ l ≤ k + 1 ∧ 0 ≤ c ∧ c ≤ k + 1 ∧ Hid (lnP s k = l ∧ clP s k = c)) (fun _ _ i _ => n - (intOf i).toNat)
  case atStart => exact ⟨0, 1, 1, Nat.zero_le _, rfl, rfl, rfl, by trivial, by omega, by omega, by omega, Lib.hid ⟨lnZero s, clZero s⟩⟩
  case round =>
    obtain ⟨k, l, c, hk, rfl, rfl, rfl, rfl, hl, hc0, hc, HA⟩ := hrel
    by_cases hlt : k < n
    · have hks : k < s.size := by omega
      have hk0 : (0 : Int) ≤ k := by omega
      have hk1 : (k : Int) < s.size := by omega
      have h10 : ((s[k].toNat : Int) == 10) = (s[k] == 10) := u8eq s[k] 10
      rcases g : s[k] == 10 with _ | _
      · have HX := Lib.hid (And.intro ((lnMiss hks g).trans HA.out.1) ((clMiss hks g).trans (by rw [HA.out.2] : _ = c + 1)))
        rw [g] at h10
        clear g
        go_wp2
        go_roundw
        case rel => exact ⟨k + 1, l, c + 1, by omega, by go_num, rfl, rfl, by trivial, by omega, by omega, by omega, HX⟩
        case measure => simp [intOf]; omega
      · have HX := Lib.hid (And.intro ((lnHit hks g).trans (by rw [HA.out.1] : _ = l + 1)) (clHit hks g))
        rw [g] at h10
        clear g
        go_wp2
        go_roundw
        case rel => exact ⟨k + 1, l + 1, 1, by omega, by go_num, by go_num, rfl, by trivial, by omega, by omega, by omega, HX⟩
        case measure => simp [intOf]; omega
    · obtain rfl : k = n := by omega
      have hlL : l = L := HA.out.1.symm.trans HL.out
      have hcC : c = C := HA.out.2.symm.trans HC.out
      subst hlL; subst hcC
      go_wp2
      go_ret3
      exact ⟨rfl, rfl⟩
theorem posIs (s : ByteArray) (a : Int) : ∃ p q r, posE s a = .returned (.tuple #[.int .i64 p, .int .i64 q, .bool r]) := by
  unfold posE
  split
  · exact ⟨_, _, _, rfl⟩
  · exact ⟨_, _, _, rfl⟩
set_option maxHeartbeats 1000000 in
theorem lawPosition (s : ByteArray) (a : Int) (w : World) (hw : Ev w) : Calls Tryd.prog 5 #[.string s, .int .i64 a] w (LawOk9 w) := by
  have HEX := Lib.hid (fun X (hX : Below w.heap.size w X) => exOk9 X (hw.stays hX))
  clear hw
  by_cases h1 : 400 < s.size
  · go_enter Tryd.func5, Tryd.ntmps5
    go_wp2_with fail
    refine (HEX.out _ (Below.refl _ _)).mono ?_
    rintro e w' ⟨rfl, b⟩
    go_wp2
    go_ret
    exact ⟨rfl, b⟩
  have HI := Lib.hid (fun X => iPos s a (by omega) X)
  have HR := Lib.hid (fun X => rPos s a (by omega) X)
  obtain ⟨p, q, r, h⟩ := posIs s a
  rw [h] at HI HR
  clear h
  go_enter Tryd.func5, Tryd.ntmps5
  go_wp2_with fail
  refine (HI.out _).mono ?_
  rintro e w1 ⟨rfl, rfl⟩
  go_wp2_with fail
  refine (HR.out _).mono ?_
  rintro e w1 ⟨rfl, rfl⟩
  go_wp2_with fail
  refine (HEX.out _ (Below.refl _ _)).mono ?_
  rintro e w' ⟨rfl, b⟩
  go_wp2
  go_ret
  exact ⟨rfl, b⟩
end Go.Proofs.YtnlhkeobfidjkaaDoor
