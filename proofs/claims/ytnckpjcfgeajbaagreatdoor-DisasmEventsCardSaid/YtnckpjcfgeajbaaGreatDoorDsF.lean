/-
  The contracts of the two Formats: each returns the decimal notation of its argument. The program's reads the library's table of powers of ten.
-/
import Derived.Test.YtnckpjcfgeajbaaGreatDoorInsN
import Derived.Test.YtnckpjcfgeajbaaGreatDoorShelf
import Derived.Lib.ItoaNum
import Derived.Lib.AppendIntMem
import Derived.Lib.ItoaLen
namespace Go.Proofs.YtnckpjcfgeajbaaGreatDoor
open Go.RowKit

/-- The digits of a number, none for 0. -/
def dd (u : Nat) : List UInt8 := if u = 0 then [] else Lib.decDigits u
theorem ddStep (u : Nat) (h : u ≠ 0) : dd u = dd (u / 10) ++ [UInt8.ofNat (48 + u % 10)] := by
  unfold dd
  rw [if_neg h, Lib.decDigits]
  by_cases hs : u < 10
  · rw [dif_pos hs, if_pos (by omega), Nat.mod_eq_of_lt hs]; rfl
  · rw [dif_neg hs, if_neg (by omega)]

theorem ddLen (u : Nat) (h : u ≤ 9223372036854775808) : (dd u).length ≤ 20 := by
  unfold dd
  split
  · simp
  · rw [Lib.decDigits_length]; exact Lib.nDigits_le20 u (by omega)
theorem baEq {a : ByteArray} {l : List UInt8} (h : a.data.toList = l) : a = ⟨l.toArray⟩ := by
  subst h; cases a; simp
theorem digFin : ∀ d : Fin 10, ((⟨#[48, 49, 50, 51, 52, 53, 54, 55, 56, 57]⟩ : ByteArray).data.toList.drop d.val).take (d.val + 1 - d.val) = [UInt8.ofNat (48 + d.val)] := by decide
theorem digAt (d : Nat) (h : d < 10) : ((⟨#[48, 49, 50, 51, 52, 53, 54, 55, 56, 57]⟩ : ByteArray).extract d (d + 1)).data.toList = [UInt8.ofNat (48 + d)] := by
  rw [Lib.extract_data]; exact digFin ⟨d, h⟩
theorem dataApp (a b : ByteArray) : (a ++ b).data.toList = a.data.toList ++ b.data.toList := Joins.data_append a b

/-- What the loop has written: the digits of n behind those of u. -/
def Wr (n u : Nat) (x : ByteArray) : Prop := dd n = dd u ++ x.data.toList
theorem Wr.step {n u : Nat} {x : ByteArray} (h : Wr n u x) (hu : u ≠ 0) : Wr n (u / 10) ((⟨#[48, 49, 50, 51, 52, 53, 54, 55, 56, 57]⟩ : ByteArray).extract (u % 10) (u % 10 + 1) ++ x) := by
  unfold Wr at *
  rw [dataApp, digAt _ (Nat.mod_lt _ (by omega)), h, ddStep u hu, List.append_assoc]
theorem Wr.size {n u : Nat} {x : ByteArray} (h : Wr n u x) (hb : n ≤ 9223372036854775808) : x.size ≤ 1000 := by
  have := congrArg List.length h
  have hl := ddLen n hb
  rw [List.length_append] at this
  have hx : x.data.toList.length = x.size := rfl
  omega
theorem Wr.done {n : Nat} {x : ByteArray} (h : Wr n 0 x) (hn : n ≠ 0) : x.data.toList = Lib.decDigits n := by
  unfold Wr dd at h
  rw [if_neg hn, if_pos rfl] at h
  exact h.symm
theorem wS {x y : ByteArray} (h : x = y) : Ending.returned (.string x) = .returned (.string y) := by rw [h]
theorem vI {a b : Int} (h : a = b) : Value.int .i64 a = Value.int .i64 b := by rw [h]

theorem rFormPos (n : Nat) (hn : n ≠ 0) (hb : n ≤ 9223372036854775807) (w : World) :
    Calls Tryz.prog 61 #[.int .i64 (n : Int)] w fun e w' => e = .returned (.string ⟨(Lib.decDigits n).toArray⟩) ∧ w = w' := by
  have h1 : ((n : Int) == 0) = false := by simp; omega
  have HN := Lib.hid hn; clear hn
  go_enter Tryz.func61, Tryz.ntmps61
  go_wp2
  go_loop [3, 4] (fun o m => ∃ (u : Nat) (x : ByteArray), u ≤ 9223372036854775807 ∧ x.size ≤ 1000 ∧ m = .int .i64 u ∧ o = .string x ∧ Wr n u x) (fun _ m => (intOf m).toNat)
  case atStart => exact ⟨n, ⟨#[]⟩, hb, by decide, rfl, rfl, by simp [Wr]⟩
  case round =>
    obtain ⟨u, x, hu, hx, rfl, rfl, hw⟩ := hrel
    have HW := Lib.hid hw; clear hw
    by_cases hz : u = 0
    · subst hz
      go_wp2
      go_ret
      exact ⟨wS (baEq (HW.out.done HN.out)), rfl⟩
    · have hz' : ((u : Int) == 0) = false := by simp; omega
      have hz2 : ((u : Int) != 0) = true := by simp; omega
      have HZ := Lib.hid hz
      go_wp2
      have hs := HW.out.step HZ.out
      exact ⟨⟨u / 10, _, by omega, hs.size (by omega), vI (by omega), rfl, hs⟩, by simp [intOf]; omega⟩

set_option maxHeartbeats 1000000 in
theorem rFormNeg (n : Nat) (hn : n ≠ 0) (hb : n ≤ 9223372036854775808) (w : World) :
    Calls Tryz.prog 61 #[.int .i64 (-(n : Int))] w fun e w' => e = .returned (.string ⟨(45 :: Lib.decDigits n).toArray⟩) ∧ w = w' := by
  have h1 : (-(n : Int) == 0) = false := by simp; omega
  have h2 : -(n : Int) < 0 := by omega
  have HN := Lib.hid hn; clear hn
  go_enter Tryz.func61, Tryz.ntmps61
  go_wp2
  go_loop [3, 4] (fun o m => ∃ (u : Nat) (x : ByteArray), u ≤ 9223372036854775808 ∧ x.size ≤ 1000 ∧ m = .int .i64 (-(u : Int)) ∧ o = .string x ∧ Wr n u x) (fun _ m => (-(intOf m)).toNat)
  case atStart => exact ⟨n, ⟨#[]⟩, hb, by decide, rfl, rfl, by simp [Wr]⟩
  case round =>
    obtain ⟨u, x, hu, hx, rfl, rfl, hw⟩ := hrel
    have HW := Lib.hid hw; clear hw
    by_cases hz : u = 0
    · subst hz
      go_wp2
      go_ret
      refine ⟨wS (baEq ?_), rfl⟩
      rw [dataApp, HW.out.done HN.out]
      rfl
    · have hz' : (-(u : Int) == 0) = false := by simp; omega
      have hz2 : (-(u : Int) != 0) = true := by simp; omega
      have e1 : (-(u : Int)).tmod 10 = -((u % 10 : Nat) : Int) := by rw [Int.neg_tmod]; rfl
      have e2 : (-(u : Int)).tdiv 10 = -((u / 10 : Nat) : Int) := by rw [Int.neg_tdiv]; rfl
      have HZ := Lib.hid hz
      by_cases hm : u % 10 = 0
      · have hs := HW.out.step HZ.out
        rw [hm] at e1 hs
        have HS := Lib.hid hs; clear hs hm
        go_wp2
        exact ⟨⟨u / 10, _, by omega, HS.out.size hb, vI (by omega), rfl, HS.out⟩, by simp [intOf]; omega⟩
      · have hlt : -((u % 10 : Nat) : Int) < 0 := by omega
        go_wp2
        have hs := HW.out.step HZ.out
        exact ⟨⟨u / 10, _, by omega, hs.size hb, vI (by omega), rfl, hs⟩, by simp [intOf]; omega⟩

theorem rFormZero (w : World) :
    Calls Tryz.prog 61 #[.int .i64 0] w fun e w' => e = .returned (.string ⟨#[48]⟩) ∧ w = w' := by
  go_enter Tryz.func61, Tryz.ntmps61
  go_wp2
  go_ret
  exact ⟨rfl, rfl⟩

theorem rForm (n : Int) (r : ByteArray) (hr : ⟨(Lib.itoa n).toArray⟩ = r) (h0 : -9223372036854775808 ≤ n) (h1 : n ≤ 9223372036854775807) (w : World) :
    Calls Tryz.prog 61 #[.int .i64 n] w fun e w' => e = .returned (.string r) ∧ w = w' := by
  subst hr
  rcases (by omega : n = 0 ∨ 0 < n ∨ n < 0) with rfl | hp | hp
  · have e : Lib.itoa 0 = [48] := by unfold Lib.itoa; rw [if_neg (by omega), Lib.decDigits_one (by decide)]; rfl
    rw [e]; exact rFormZero w
  · obtain ⟨k, rfl⟩ : ∃ k : Nat, n = k := ⟨n.toNat, by omega⟩
    have e : Lib.itoa (k : Int) = Lib.decDigits k := by unfold Lib.itoa; rw [if_neg (by omega)]; rfl
    rw [e]; exact rFormPos k (by omega) (by omega) w
  · obtain ⟨k, rfl⟩ : ∃ k : Nat, n = -(k : Int) := ⟨(-n).toNat, by omega⟩
    have e : Lib.itoa (-(k : Int)) = 45 :: Lib.decDigits k := by unfold Lib.itoa; rw [if_pos (by omega), Int.natAbs_neg]; rfl
    rw [e]; exact rFormNeg k (by omega) (by omega) w

/-- The library's table of powers of ten is laid. -/
abbrev Tb (w : World) : Prop := Lib.TabIs Tryz.prog w "internal/strconv.uint64pow10" .u64 Lib.pow10Tab

theorem vForm (n : Int) (r : ByteArray) (hr : ⟨(Lib.itoa n).toArray⟩ = r) (h0 : -9223372036854775808 ≤ n) (h1 : n ≤ 9223372036854775807) (w : World) (hT : Tb w) :
    Calls Tryz.prog 55 #[.int .i64 n] w fun e w' => e = .returned (.string r) ∧ Below w.heap.size w w' := by
  subst hr
  have HT := Lib.hid hT; clear hT
  go_enter Tryz.func55, Tryz.ntmps55
  go_wp2_with (go_at_call 120; refine (Tryz.strconv_Itoa _ h0 h1 _ HT.out).mono ?_; rintro e w' ⟨rfl, k, os, rfl⟩)
  go_ret
  exact ⟨rfl, Lib.below_grow _ _ (Nat.le_refl _) _ _⟩
end Go.Proofs.YtnckpjcfgeajbaaGreatDoor
