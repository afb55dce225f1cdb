/-
  The contracts of the functions on sets that only read: Has, Valid and Subset of the reference, Valid of the program.
-/
import Derived.Test.YthfllfdgndaddaaInts
import Derived.Test.YthfllfdgndaddaaSetMath
namespace Go.Proofs.Ythfllfdgndaddaa
open Go.RowKit

set_option maxHeartbeats 400000 in
theorem rHas (l : List Int) (n : Int) (r : Bool) (hr : memB l n = r) (A : Option Addr) (c : Nat) (w : World) (ha : Rd w A c l) :
    Calls Try.prog 16 #[.slice A l.length c, .int .i64 n] w fun e w' => e = .returned (.bool r) ∧ w = w' := by
  have hla := ha.le
  have hca := ha.max
  unfold maxLen at hca
  have HA := Lib.hid ha; clear ha
  have HR := Lib.hid hr; clear hr
  go_enter Try.func16, Try.ntmps16
  go_wp2
  go_loop [5] (fun i => ∃ k : Nat, k ≤ l.length ∧ i = .int .i64 k ∧ Hid (∀ x ∈ l.take k, x ≠ n)) (fun i => l.length - (intOf i).toNat)
  case atStart => exact ⟨0, Nat.zero_le _, rfl, Lib.hid (by simp)⟩
  case round =>
    obtain ⟨k, hk, rfl, HT⟩ := hrel
    by_cases hlt : k < l.length
    · obtain ⟨ad, rfl, _, hc⟩ := HA.out.one hlt
      by_cases hx : l[k] = n
      · have HX := Lib.hid (HR.out.symm.trans (memB_yes hlt hx))
        rw [hx] at hc
        clear hx
        have hyy : (n == n) = true := by simp
        go_wp2
        go_ret
        exact ⟨retB HX.out.symm, rfl⟩
      · have HX := Lib.hid (neTakeSucc hlt HT.out hx)
        generalize l[k] = x at *
        have hyy : (x == n) = false := by simpa using hx
        go_wp2
        go_round
        case rel => exact ⟨k + 1, by omega, by go_num, HX⟩
        case measure => simp [intOf]; omega
    · have HX := Lib.hid (HR.out.symm.trans (memB_no (by omega) HT.out))
      go_wp2
      go_ret
      exact ⟨retB HX.out.symm, rfl⟩

set_option maxHeartbeats 400000 in
theorem rValid (l : List Int) (r : Bool) (hr : srtB l = r) (A : Option Addr) (c : Nat) (w : World) (ha : Rd w A c l) :
    Calls Try.prog 14 #[.slice A l.length c] w fun e w' => e = .returned (.bool r) ∧ ∃ n, w' = w.drewN n := by
  have hla := ha.le
  have hca := ha.max
  unfold maxLen at hca
  have HA := Lib.hid ha; clear ha
  have HR := Lib.hid hr; clear hr
  go_enter Try.func14, Try.ntmps14
  go_wp2
  go_loopw [3] (fun i wr => ∃ k : Nat, 1 ≤ k ∧ (k = 1 ∨ k ≤ l.length) ∧ i = .int .i64 k ∧ Hid (Srt (l.take k)) ∧ ∃ n, wr = w.drewN n) (fun i _ => l.length - (intOf i).toNat)
  case atStart => exact ⟨1, Nat.le_refl _, Or.inl rfl, rfl, Lib.hid (srtOne l), 0, rfl⟩
  case round =>
    obtain ⟨k, h1, hk, rfl, HT, n, rfl⟩ := hrel
    have hk' : k ≤ 9223372036854775807 := by omega
    clear hk
    by_cases hlt : k < l.length
    · obtain ⟨ad, rfl, _, hc⟩ := HA.out.one hlt
      obtain ⟨ad', e', _, hd⟩ := HA.out.one (k := k - 1) (by omega)
      obtain rfl : ad = ad' := by injection e'
      clear e'
      have s1 : IntKind.i64.wrap ((k : Int) - 1) = ((k - 1 : Nat) : Int) := by
        rw [IntWalk.i64_in _ (by omega)]; omega
      by_cases hx : l[k] ≤ l[k - 1]
      · have HX := Lib.hid (HR.out.symm.trans (srtB_no hlt h1 hx))
        generalize l[k] = x at *
        generalize l[k - 1] = y at *
        go_wp2
        go_quiet (fail)
        go_wp2
        go_ret
        exact ⟨retB HX.out.symm, _, World.drewN_drewN _ _ _⟩
      · have HX := Lib.hid (srtTakeSucc HT.out hlt h1 (by omega))
        generalize l[k] = x at *
        generalize l[k - 1] = y at *
        have hx' : y < x := by omega
        go_wp2
        go_quiet (fail)
        go_wp2
        go_roundw
        case rel => exact ⟨k + 1, by omega, Or.inr (by omega), by go_num, HX, _, rfl⟩
        case measure => simp [intOf]; omega
    · have HX := Lib.hid (HR.out.symm.trans (srtB_all (by omega) HT.out))
      go_wp2
      go_ret
      exact ⟨retB HX.out.symm, _, rfl⟩
set_option maxHeartbeats 400000 in
theorem iValid (l : List Int) (r : Bool) (hr : srtB l = r) (A : Option Addr) (c : Nat) (w : World) (ha : Rd w A c l) :
    Calls Try.prog 13 #[.slice A l.length c] w fun e w' => e = .returned (.bool r) ∧ ∃ n, w' = w.drewN n := by
  have hla := ha.le
  have hca := ha.max
  unfold maxLen at hca
  have HA := Lib.hid ha; clear ha
  have HR := Lib.hid hr; clear hr
  go_enter Try.func13, Try.ntmps13
  go_wp2
  go_loopw [3] (fun i wr => ∃ k : Nat, 1 ≤ k ∧ (k = 1 ∨ k ≤ l.length) ∧ i = .int .i64 k ∧ Hid (Srt (l.take k)) ∧ ∃ n, wr = w.drewN n) (fun i _ => l.length - (intOf i).toNat)
  case atStart => exact ⟨1, Nat.le_refl _, Or.inl rfl, rfl, Lib.hid (srtOne l), 0, rfl⟩
  case round =>
    obtain ⟨k, h1, hk, rfl, HT, n, rfl⟩ := hrel
    have hk' : k ≤ 9223372036854775807 := by omega
    clear hk
    by_cases hlt : k < l.length
    · obtain ⟨ad, rfl, _, hc⟩ := HA.out.one hlt
      obtain ⟨ad', e', _, hd⟩ := HA.out.one (k := k - 1) (by omega)
      obtain rfl : ad = ad' := by injection e'
      clear e'
      have s1 : IntKind.i64.wrap ((k : Int) - 1) = ((k - 1 : Nat) : Int) := by
        rw [IntWalk.i64_in _ (by omega)]; omega
      by_cases hx : l[k] ≤ l[k - 1]
      · have HX := Lib.hid (HR.out.symm.trans (srtB_no hlt h1 hx))
        generalize l[k] = x at *
        generalize l[k - 1] = y at *
        go_wp2
        go_quiet (fail)
        go_wp2
        go_ret
        exact ⟨retB HX.out.symm, _, World.drewN_drewN _ _ _⟩
      · have HX := Lib.hid (srtTakeSucc HT.out hlt h1 (by omega))
        generalize l[k] = x at *
        generalize l[k - 1] = y at *
        have hx' : y < x := by omega
        go_wp2
        go_quiet (fail)
        go_wp2
        go_roundw
        case rel => exact ⟨k + 1, by omega, Or.inr (by omega), by go_num, HX, _, rfl⟩
        case measure => simp [intOf]; omega
    · have HX := Lib.hid (HR.out.symm.trans (srtB_all (by omega) HT.out))
      go_wp2
      go_ret
      exact ⟨retB HX.out.symm, _, rfl⟩
set_option maxHeartbeats 400000 in
theorem rSubset (l m : List Int) (r : Bool) (hr : subB l m = r) (A B : Option Addr) (c d : Nat) (w : World) (ha : Rd w A c l) (hb : Rd w B d m) :
    Calls Try.prog 28 #[.slice A l.length c, .slice B m.length d] w fun e w' => e = .returned (.bool r) ∧ w = w' := by
  have hla := ha.le
  have hca := ha.max
  unfold maxLen at hca
  have HA := Lib.hid ha; clear ha
  have HB := Lib.hid hb; clear hb
  have HR := Lib.hid hr; clear hr
  go_enter Try.func28, Try.ntmps28
  go_wp2
  go_loop [5] (fun i => ∃ k : Nat, k ≤ l.length ∧ i = .int .i64 k ∧ Hid (∀ x ∈ l.take k, x ∈ m)) (fun i => l.length - (intOf i).toNat)
  case atStart => exact ⟨0, Nat.zero_le _, rfl, Lib.hid (by simp)⟩
  case round =>
    obtain ⟨k, hk, rfl, HT⟩ := hrel
    by_cases hlt : k < l.length
    · obtain ⟨ad, rfl, _, hc⟩ := HA.out.one hlt
      rcases hx : memB m l[k] with _ | _
      · have HX := Lib.hid (HR.out.symm.trans (subB_no hlt hx))
        have HY := Lib.hid hx; clear hx
        generalize l[k] = x at *
        go_wp2_with fail
        refine (rHas m x false HY.out B d _ HB.out).mono ?_
        rintro e w' ⟨rfl, rfl⟩
        go_wp2
        go_ret
        exact ⟨retB HX.out.symm, rfl⟩
      · have HX := Lib.hid (subTakeSucc hlt HT.out hx)
        have HY := Lib.hid hx; clear hx
        generalize l[k] = x at *
        go_wp2_with fail
        refine (rHas m x true HY.out B d _ HB.out).mono ?_
        rintro e w' ⟨rfl, rfl⟩
        go_wp2
        go_round
        case rel => exact ⟨k + 1, by omega, by go_num, HX⟩
        case measure => simp [intOf]; omega
    · have HX := Lib.hid (HR.out.symm.trans (subB_all (by omega) HT.out))
      go_wp2
      go_ret
      exact ⟨retB HX.out.symm, rfl⟩
end Go.Proofs.Ythfllfdgndaddaa
