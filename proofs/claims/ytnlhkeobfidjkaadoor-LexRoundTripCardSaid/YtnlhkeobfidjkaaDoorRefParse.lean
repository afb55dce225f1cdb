/-
  The contract of the specification's Parse, its walk: it returns the same value and error as the program's, and nothing changes.
-/
import Derived.Test.YtnlhkeobfidjkaaDoorParseRef
namespace Go.Proofs.YtnlhkeobfidjkaaDoor
open Go.RowKit

theorem rParNo (s : ByteArray) (hn : notB s.data.toList = false) (hs : s.size ≤ 281474976710656) (w : World) :
    Calls Tryd.prog 37 #[.string s] w fun e w' => e = .returned (.tuple #[.int .i64 0, .int .i64 16]) ∧ w = w' := by
  have HN := Lib.hid hn; clear hn
  go_enter Tryd.func37, Tryd.ntmps37
  go_wp2_with (go_at_call 50; refine (rNotIs _ _ HN.out hs _).mono ?_; rintro e w' ⟨rfl, rfl⟩)
  go_ret2
  exact ⟨rfl, rfl⟩

theorem rParLong (s : ByteArray) (hn : notB s.data.toList = true) (hl : 11 < s.size) (hs : s.size ≤ 281474976710656) (w : World) :
    Calls Tryd.prog 37 #[.string s] w fun e w' => e = .returned (.tuple #[.int .i64 0, .int .i64 2]) ∧ w = w' := by
  have HN := Lib.hid hn; clear hn
  go_enter Tryd.func37, Tryd.ntmps37
  go_wp2_with (go_at_call 50; refine (rNotIs _ _ HN.out hs _).mono ?_; rintro e w' ⟨rfl, rfl⟩)
  go_ret2
  exact ⟨rfl, rfl⟩

theorem valN {k : IntKind} {a b : Int} (h : a = b) : Value.int k a = Value.int k b := by rw [h]
theorem svNeg (s : ByteArray) (hp : Lib.hasPrefix s.data.toList [45] = true) : svI s.data.toList = -(rd s.data.toList s.size : Int) := by rw [rdAll s, if_pos hp]
theorem svPos (s : ByteArray) (hp : Lib.hasPrefix s.data.toList [45] = false) : svI s.data.toList = (rd s.data.toList s.size : Int) := by
  rw [rdAll s, hp]; rfl

set_option maxHeartbeats 1000000 in
theorem rParNeg (s : ByteArray) (hn : notB s.data.toList = true) (hp : Lib.hasPrefix s.data.toList [45] = true) (hl : s.size ≤ 11) (h0 : 0 < s.size) (w : World) :
    Calls Tryd.prog 37 #[.string s] w fun e w' => e = .returned (.tuple #[.int .i64 (parV s.data.toList), .int .i64 (parE s.data.toList)]) ∧ w = w' := by
  have hm : ((s[0].toNat : Int) == 45) = true := (headMinus s h0).symm.trans hp
  have hb := rdBound s hn s.size hl (Nat.le_refl _)
  have HV := Lib.hid (parSv s.data.toList hn)
  have HR := Lib.hid (svNeg s hp)
  have HN := Lib.hid hn; clear hn
  have HP := Lib.hid hp; clear hp
  go_enter Tryd.func37, Tryd.ntmps37
  go_wp2_with (go_at_call 50; refine (rNotIs _ _ HN.out (by omega) _).mono ?_; rintro e w' ⟨rfl, rfl⟩)
  go_loop [4, 5] (fun n i => ∃ k : Nat, k ≤ s.size ∧ i = .int .i64 k ∧ n = .int .i64 (rd s.data.toList k : Nat)) (fun _ i => s.size - (intOf i).toNat)
  case atStart => exact ⟨0, Nat.zero_le _, rfl, by rw [(rdFirst s HP.out).1]; rfl⟩
  case round =>
    obtain ⟨k, hk, rfl, rfl⟩ := hrel
    by_cases hlt : k < s.size
    · by_cases hk0 : k = 0
      · subst hk0
        go_wp2
        refine ⟨⟨1, by omega, by go_num, ?_⟩, by simp [intOf]; omega⟩
        rw [(rdFirst s HP.out).1, (rdFirst s HP.out).2]
      · have hd := tailDig s HN.out k hlt (Or.inl (by omega))
        have h1 : 48 ≤ (s[k].toNat : Int) := by omega
        have h2 : (s[k].toNat : Int) ≤ 57 := by omega
        have h3 : ((s[k].toNat : Int) == 45) = false := by simp; omega
        have hbk := rdBound s HN.out k (by omega) hk
        have HS := Lib.hid (rdSucc s k hlt (Or.inl (by omega)))
        go_wp2
        refine ⟨⟨k + 1, by omega, by go_num, ?_⟩, by simp [intOf]; omega⟩
        rw [HS.out]; exact valN (by omega)
    · obtain rfl : k = s.size := by omega
      go_wp2
      · go_ret2
        have hx := HV.out.1 (by rw [HR.out]; omega)
        exact ⟨retP ⟨hx.1.trans HR.out, hx.2⟩, rfl⟩
      · go_ret2
        have hx := HV.out.2 (by rw [HR.out]; omega)
        exact ⟨retP hx, rfl⟩

set_option maxHeartbeats 1000000 in
theorem rParPos (s : ByteArray) (hn : notB s.data.toList = true) (hp : Lib.hasPrefix s.data.toList [45] = false) (hl : s.size ≤ 11) (h0 : 0 < s.size) (w : World) :
    Calls Tryd.prog 37 #[.string s] w fun e w' => e = .returned (.tuple #[.int .i64 (parV s.data.toList), .int .i64 (parE s.data.toList)]) ∧ w = w' := by
  have hm : ((s[0].toNat : Int) == 45) = false := (headMinus s h0).symm.trans hp
  have hb := rdBound s hn s.size hl (Nat.le_refl _)
  have HV := Lib.hid (parSv s.data.toList hn)
  have HR := Lib.hid (svPos s hp)
  have HN := Lib.hid hn; clear hn
  have HP := Lib.hid hp; clear hp
  have HZ : Hid (rd s.data.toList 0 = 0) := Lib.hid (by unfold rd; split <;> rfl)
  go_enter Tryd.func37, Tryd.ntmps37
  go_wp2_with (go_at_call 50; refine (rNotIs _ _ HN.out (by omega) _).mono ?_; rintro e w' ⟨rfl, rfl⟩)
  go_loop [4, 5] (fun n i => ∃ k : Nat, k ≤ s.size ∧ i = .int .i64 k ∧ n = .int .i64 (rd s.data.toList k : Nat)) (fun _ i => s.size - (intOf i).toNat)
  case atStart => exact ⟨0, Nat.zero_le _, rfl, by rw [HZ.out]; rfl⟩
  case round =>
    obtain ⟨k, hk, rfl, rfl⟩ := hrel
    by_cases hlt : k < s.size
    · have hd := tailDig s HN.out k hlt (Or.inr HP.out)
      have h1 : 48 ≤ (s[k].toNat : Int) := by omega
      have h2 : (s[k].toNat : Int) ≤ 57 := by omega
      have h3 : ((s[k].toNat : Int) == 45) = false := by simp; omega
      have hbk := rdBound s HN.out k (by omega) hk
      have HS := Lib.hid (rdSucc s k hlt (Or.inr HP.out))
      go_wp2
      refine ⟨⟨k + 1, by omega, by go_num, ?_⟩, by simp [intOf]; omega⟩
      rw [HS.out]; exact valN (by omega)
    · obtain rfl : k = s.size := by omega
      go_wp2
      · go_ret2
        have hx := HV.out.2 (by rw [HR.out]; omega)
        exact ⟨retP hx, rfl⟩
      · go_ret2
        have hx := HV.out.1 (by rw [HR.out]; omega)
        exact ⟨retP ⟨hx.1.trans HR.out, hx.2⟩, rfl⟩

theorem rPar (s : ByteArray) (hs : s.size ≤ 281474976710656) (w : World) :
    Calls Tryd.prog 37 #[.string s] w fun e w' => e = .returned (.tuple #[.int .i64 (parV s.data.toList), .int .i64 (parE s.data.toList)]) ∧ w = w' := by
  cases hn : notB s.data.toList with
  | false =>
    have h := parNo _ hn
    rw [h.1, h.2]
    exact rParNo s hn hs w
  | true =>
    have h0 : 0 < s.size := by
      refine Nat.pos_of_ne_zero fun hz => ?_
      rw [List.eq_nil_of_length_eq_zero (l := s.data.toList) hz] at hn
      exact absurd hn (by decide)
    by_cases hl : 11 < s.size
    · have h := (parSv _ hn).2 (longOut s hn hl)
      rw [h.1, h.2]
      exact rParLong s hn hl hs w
    · cases hp : Lib.hasPrefix s.data.toList [45] with
      | true => exact rParNeg s hn hp (by omega) h0 w
      | false => exact rParPos s hn hp (by omega) h0 w
end Go.Proofs.YtnlhkeobfidjkaaDoor
