/-
  The contracts of the two functions that tell whether a clock is valid.
-/
import Derived.Test.YtdppccipajfamaaCk
import Derived.Test.YtdppccipajfamaaRows
import Derived.Deep.QuietTactic
import Derived.BigQuiet
import Derived.Outline
import Derived.LoopTactic
import Derived.WalkKit
import Derived.Lib.Hide
namespace Go.Proofs.Ytdppccipajfamaa
open Go.RowKit

set_option maxHeartbeats 400000 in
theorem iValid (l : Ck) (n : Nat) (hn : l.length = n) (r : Bool) (hr : vldB l = r) (A : Option Addr) (c : Nat) (w : World) (ha : Rc w A c l) :
    Calls Try.prog 12 #[.slice A n c] w fun e w' => e = .returned (.bool r) ∧ Below w.heap.size w w' := by
  have hla := ha.le
  have hca := ha.max
  unfold maxLen at hca
  have HA := Lib.hid ha; clear ha
  have HR := Lib.hid hr; clear hr
  have HN := Lib.hid hn; clear hn
  go_enter Try.func12, Try.ntmps12
  go_wp2
  go_loopw [7] (fun i wr => ∃ k : Nat, k ≤ n ∧ i = .int .i64 k ∧ Hid (VL (l.take k)) ∧ Below w.heap.size w wr) (fun i _ => n - (intOf i).toNat)
  case atStart => exact ⟨0, Nat.zero_le _, rfl, Lib.hid vlNil, Below.refl _ _⟩
  case round =>
    obtain ⟨k, hk, rfl, HT, hb⟩ := hrel
    by_cases hlt : k < n
    · have hkl : k < l.length := by have := HN.out; omega
      obtain ⟨b, off, rfl, had, hc1, hc2⟩ := (HA.out.below hb).one hkl
      by_cases g1 : l[k].2 < 1
      · have HX := Lib.hid (HR.out.symm.trans (vldLow hkl g1))
        generalize l[k].1 = x at *
        generalize l[k].2 = y at *
        go_wp2
        go_ret
        exact ⟨retB HX.out.symm, hb.alloc hb.size _⟩
      by_cases g2 : 2147483647 < l[k].2
      · have HX := Lib.hid (HR.out.symm.trans (vldHigh hkl g2))
        generalize l[k].1 = x at *
        generalize l[k].2 = y at *
        go_wp2
        go_ret
        exact ⟨retB HX.out.symm, hb.alloc hb.size _⟩
      rcases Nat.eq_zero_or_pos k with h0 | h0
      · have HX := Lib.hid (vlSucc hkl HT.out (by omega) (by omega) (fun h => by omega))
        have hkz : decide (0 < k) = false := by simp; omega
        have H0 := Lib.hid h0; clear h0
        generalize l[k].1 = x at *
        generalize l[k].2 = y at *
        go_wp2
        go_quiet (fail)
        go_wp2
        go_roundw
        case rel => exact ⟨k + 1, by omega, by go_num, HX, belowDrewN (hb.alloc hb.size _) _⟩
        case measure => simp [intOf]; omega
      · obtain ⟨b', off', e, _, hd1, hd2⟩ := (HA.out.below hb).one (show k - 1 < l.length by omega)
        injection e with e
        injection e with e1 e2
        subst e1; subst e2
        clear hd2
        by_cases g3 : l[k].1 ≤ l[k - 1].1
        · have HX := Lib.hid (HR.out.symm.trans (vldOrd hkl h0 g3))
          generalize l[k].1 = x at *
          generalize l[k].2 = y at *
          generalize l[k - 1].1 = z at *
          go_wp2
          go_quiet (fail)
          go_wp2
          go_ret
          exact ⟨retB HX.out.symm, belowDrewN (hb.alloc hb.size _) _⟩
        · have HX := Lib.hid (vlSucc hkl HT.out (by omega) (by omega) (fun h => by omega))
          generalize l[k].1 = x at *
          generalize l[k].2 = y at *
          generalize l[k - 1].1 = z at *
          go_wp2
          go_quiet (fail)
          go_wp2
          go_roundw
          case rel => exact ⟨k + 1, by omega, by go_num, HX, belowDrewN (hb.alloc hb.size _) _⟩
          case measure => simp [intOf]; omega
    · have HX := Lib.hid (HR.out.symm.trans (vldAll HT.out (by have := HN.out; omega)))
      go_wp2
      go_ret
      exact ⟨retB HX.out.symm, hb⟩

set_option maxHeartbeats 400000 in
theorem rValid (l : Ck) (n : Nat) (hn : l.length = n) (r : Bool) (hr : vldB l = r) (A : Option Addr) (c : Nat) (w : World) (ha : Rc w A c l) :
    Calls Try.prog 13 #[.slice A n c] w fun e w' => e = .returned (.bool r) ∧ ∃ q, w' = w.drewN q := by
  have hla := ha.le
  have hca := ha.max
  unfold maxLen at hca
  have HA := Lib.hid ha; clear ha
  have HR := Lib.hid hr; clear hr
  have HN := Lib.hid hn; clear hn
  go_enter Try.func13, Try.ntmps13
  go_wp2
  go_loopw [3] (fun i wr => ∃ k : Nat, k ≤ n ∧ i = .int .i64 k ∧ Hid (VL (l.take k)) ∧ ∃ q, wr = w.drewN q) (fun i _ => n - (intOf i).toNat)
  case atStart => exact ⟨0, Nat.zero_le _, rfl, Lib.hid vlNil, 0, rfl⟩
  case round =>
    obtain ⟨k, hk, rfl, HT, q, rfl⟩ := hrel
    by_cases hlt : k < n
    · have hkl : k < l.length := by have := HN.out; omega
      obtain ⟨b, off, rfl, had, hc1, hc2⟩ := HA.out.one hkl
      by_cases g1 : l[k].2 < 1
      · have HX := Lib.hid (HR.out.symm.trans (vldLow hkl g1))
        have hg1 : decide (l[k].2 < 1) = true := by simpa using g1
        generalize l[k].1 = x at *
        generalize l[k].2 = y at *
        go_wp2
        go_quiet (fail)
        go_wp2
        go_ret
        exact ⟨retB HX.out.symm, _, World.drewN_drewN _ _ _⟩
      have hg1 : decide (l[k].2 < 1) = false := by simpa using g1
      by_cases g2 : 2147483647 < l[k].2
      · have HX := Lib.hid (HR.out.symm.trans (vldHigh hkl g2))
        have hg2 : decide (2147483647 < l[k].2) = true := by simpa using g2
        generalize l[k].1 = x at *
        generalize l[k].2 = y at *
        go_wp2
        go_quiet (fail)
        go_wp2
        go_ret
        exact ⟨retB HX.out.symm, _, World.drewN_drewN _ _ _⟩
      have hg2 : decide (2147483647 < l[k].2) = false := by simpa using g2
      rcases Nat.eq_zero_or_pos k with h0 | h0
      · have HX := Lib.hid (vlSucc hkl HT.out (by omega) (by omega) (fun h => by omega))
        have hkz : decide (0 < k) = false := by simp; omega
        have H0 := Lib.hid h0; clear h0
        generalize l[k].1 = x at *
        generalize l[k].2 = y at *
        go_wp2
        go_quiet (fail)
        go_wp2
        go_roundw
        case rel => exact ⟨k + 1, by omega, by go_num, HX, _, rfl⟩
        case measure => simp [intOf]; omega
      · obtain ⟨b', off', e, _, hd1, hd2⟩ := HA.out.one (show k - 1 < l.length by omega)
        injection e with e
        injection e with e1 e2
        subst e1; subst e2
        clear hd2
        by_cases g3 : l[k].1 ≤ l[k - 1].1
        · have HX := Lib.hid (HR.out.symm.trans (vldOrd hkl h0 g3))
          generalize l[k].1 = x at *
          generalize l[k].2 = y at *
          generalize l[k - 1].1 = z at *
          go_wp2
          go_quiet (fail)
          go_wp2
          go_ret
          exact ⟨retB HX.out.symm, _, World.drewN_drewN _ _ _⟩
        · have HX := Lib.hid (vlSucc hkl HT.out (by omega) (by omega) (fun h => by omega))
          generalize l[k].1 = x at *
          generalize l[k].2 = y at *
          generalize l[k - 1].1 = z at *
          go_wp2
          go_quiet (fail)
          go_wp2
          go_roundw
          case rel => exact ⟨k + 1, by omega, by go_num, HX, _, rfl⟩
          case measure => simp [intOf]; omega
    · have HX := Lib.hid (HR.out.symm.trans (vldAll HT.out (by have := HN.out; omega)))
      go_wp2
      go_ret
      exact ⟨retB HX.out.symm, _, rfl⟩

set_option maxHeartbeats 400000 in
theorem rCount (l : Ck) (x : Int) (n : Nat) (hn : l.length = n) (r : Int) (hr : cnt l x = r) (A : Option Addr) (c : Nat) (w : World) (ha : Rc w A c l) :
    Calls Try.prog 28 #[.slice A n c, .int .i64 x] w fun e w' => e = .returned (.int .i64 r) ∧ w = w' := by
  have hla := ha.le
  have hca := ha.max
  unfold maxLen at hca
  have HA := Lib.hid ha; clear ha
  have HR := Lib.hid hr; clear hr
  have HN := Lib.hid hn; clear hn
  go_enter Try.func28, Try.ntmps28
  go_wp2
  go_loop [5] (fun i => ∃ k : Nat, k ≤ n ∧ i = .int .i64 k ∧ Hid (cnt (l.drop k) x = r)) (fun i => n - (intOf i).toNat)
  case atStart => exact ⟨0, Nat.zero_le _, rfl, HR⟩
  case round =>
    obtain ⟨k, hk, rfl, HT⟩ := hrel
    by_cases hlt : k < n
    · have hkl : k < l.length := by have := HN.out; omega
      obtain ⟨b, off, rfl, had, hc1, hc2⟩ := HA.out.one hkl
      by_cases g1 : l[k].1 = x
      · have HX := Lib.hid ((cntHit hkl g1).symm.trans HT.out)
        have hg : (l[k].1 == x) = true := by simpa using g1
        clear g1
        generalize l[k].1 = y at *
        generalize l[k].2 = z at *
        go_wp2
        go_ret
        exact ⟨retC HX.out, rfl⟩
      · have HX := Lib.hid ((cntMiss hkl g1).symm.trans HT.out)
        have hg : (l[k].1 == x) = false := by simpa using g1
        generalize l[k].1 = y at *
        generalize l[k].2 = z at *
        go_wp2
        go_round
        case rel => exact ⟨k + 1, by omega, by go_num, HX⟩
        case measure => simp [intOf]; omega
    · have HX := Lib.hid ((cntEnd (by have := HN.out; omega)).symm.trans HT.out)
      go_wp2
      go_ret
      exact ⟨retC HX.out, rfl⟩
end Go.Proofs.Ytdppccipajfamaa
