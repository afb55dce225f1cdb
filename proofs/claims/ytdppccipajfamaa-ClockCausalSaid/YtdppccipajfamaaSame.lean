/-
  The contracts of the two comparisons of clocks: they tell whether the ticks are the same.
-/
import Derived.Test.YtdppccipajfamaaVal
namespace Go.Proofs.Ytdppccipajfamaa
open Go.RowKit

set_option maxHeartbeats 400000 in
theorem rSame (l m : Ck) (n k : Nat) (hn : l.length = n) (hm : m.length = k) (r : Bool) (hr : eqC l m = r) (A B : Option Addr) (c d : Nat) (w : World) (ha : Rc w A c l) (hb : Rc w B d m) :
    Calls Try.prog 14 #[.slice A n c, .slice B k d] w fun e w' => e = .returned (.bool r) ∧ ∃ q, w' = w.drewN q := by
  have hla := ha.le
  have hlb := hb.le
  have hca := ha.max
  have hcb := hb.max
  unfold maxLen at hca hcb
  have HA := Lib.hid ha; clear ha
  have HB := Lib.hid hb; clear hb
  have HR := Lib.hid hr; clear hr
  have HN := Lib.hid hn; clear hn
  have HM := Lib.hid hm; clear hm
  by_cases hl : n = k
  · subst hl
    have hlt : ((n : Int) != (n : Int)) = false := by simp
    go_enter Try.func14, Try.ntmps14
    go_wp2
    go_loopw [5] (fun i wr => ∃ k : Nat, k ≤ n ∧ i = .int .i64 k ∧ Hid (l.take k = m.take k) ∧ ∃ q, wr = w.drewN q) (fun i _ => n - (intOf i).toNat)
    case atStart => exact ⟨0, Nat.zero_le _, rfl, Lib.hid rfl, 0, rfl⟩
    case round =>
      obtain ⟨k, hk, rfl, HT, q, rfl⟩ := hrel
      by_cases hlt : k < n
      · have hkl : k < l.length := by have := HN.out; omega
        have hkm : k < m.length := by have := HM.out; omega
        obtain ⟨b, off, rfl, _, hc1, hc2⟩ := HA.out.one hkl
        obtain ⟨b', off', rfl, _, hd1, hd2⟩ := HB.out.one hkm
        by_cases g1 : l[k].1 = m[k].1
        · have e1 : (l[k].1 == m[k].1) = true := by simpa using g1
          by_cases g2 : l[k].2 = m[k].2
          · have e2 : (l[k].2 == m[k].2) = true := by simpa using g2
            have HX := Lib.hid (takeEqSucc hkl hkm HT.out g1 g2)
            clear g1 g2
            generalize l[k].1 = x1 at *
            generalize l[k].2 = y1 at *
            generalize m[k].1 = x2 at *
            generalize m[k].2 = y2 at *
            go_wp2
            go_quiet (fail)
            go_wp2
            go_roundw
            case rel => exact ⟨k + 1, by omega, by go_num, HX, _, rfl⟩
            case measure => simp [intOf]; omega
          · have e2 : (l[k].2 == m[k].2) = false := by simpa using g2
            have HX := Lib.hid (HR.out.symm.trans (eqC_at hkl hkm (.inr g2)))
            clear g1 g2
            generalize l[k].1 = x1 at *
            generalize l[k].2 = y1 at *
            generalize m[k].1 = x2 at *
            generalize m[k].2 = y2 at *
            go_wp2
            go_quiet (fail)
            go_wp2
            go_ret
            exact ⟨retB HX.out.symm, _, World.drewN_drewN _ _ _⟩
        · have e1 : (l[k].1 == m[k].1) = false := by simpa using g1
          have HX := Lib.hid (HR.out.symm.trans (eqC_at hkl hkm (.inl g1)))
          clear g1
          generalize l[k].1 = x1 at *
          generalize l[k].2 = y1 at *
          generalize m[k].1 = x2 at *
          generalize m[k].2 = y2 at *
          go_wp2
          go_quiet (fail)
          go_wp2
          go_ret
          exact ⟨retB HX.out.symm, _, World.drewN_drewN _ _ _⟩
      · have HX := Lib.hid (HR.out.symm.trans (eqC_all (HN.out.trans HM.out.symm) (by have := HN.out; omega) HT.out))
        go_wp2
        go_ret
        exact ⟨retB HX.out.symm, _, rfl⟩
  · have HX := Lib.hid (HR.out.symm.trans (eqC_len (by have := HN.out; have := HM.out; omega)))
    have hne : ((n : Int) != (k : Int)) = true := by simp; omega
    go_enter Try.func14, Try.ntmps14
    go_wp2
    go_ret
    exact ⟨retB HX.out.symm, 0, rfl⟩

set_option maxHeartbeats 400000 in
theorem iEqual (l m : Ck) (n k : Nat) (hn : l.length = n) (hm : m.length = k) (r : Bool) (hr : eqC l m = r) (A B : Option Addr) (c d : Nat) (w : World) (ha : Rc w A c l) (hb : Rc w B d m) :
    Calls Try.prog 33 #[.slice A n c, .slice B k d] w fun e w' => e = .returned (.bool r) ∧ ∃ q, w' = w.drewN q := by
  have hla := ha.le
  have hlb := hb.le
  have hca := ha.max
  have hcb := hb.max
  unfold maxLen at hca hcb
  have HA := Lib.hid ha; clear ha
  have HB := Lib.hid hb; clear hb
  have HR := Lib.hid hr; clear hr
  have HN := Lib.hid hn; clear hn
  have HM := Lib.hid hm; clear hm
  by_cases hl : n = k
  · subst hl
    have hlt : ((n : Int) != (n : Int)) = false := by simp
    go_enter Try.func33, Try.ntmps33
    go_wp2
    go_loopw [13] (fun i wr => ∃ k : Nat, k ≤ n ∧ i = .int .i64 k ∧ Hid (l.take k = m.take k) ∧ ∃ q, wr = w.drewN q) (fun i _ => n - (intOf i).toNat)
    case atStart => exact ⟨0, Nat.zero_le _, rfl, Lib.hid rfl, 0, rfl⟩
    case round =>
      obtain ⟨k, hk, rfl, HT, q, rfl⟩ := hrel
      by_cases hlt : k < n
      · have hkl : k < l.length := by have := HN.out; omega
        have hkm : k < m.length := by have := HM.out; omega
        obtain ⟨b, off, rfl, _, hc1, hc2⟩ := HA.out.one hkl
        obtain ⟨b', off', rfl, _, hd1, hd2⟩ := HB.out.one hkm
        by_cases g1 : l[k].1 = m[k].1
        · have e1 : (l[k].1 == m[k].1) = true := by simpa using g1
          by_cases g2 : l[k].2 = m[k].2
          · have e2 : (l[k].2 == m[k].2) = true := by simpa using g2
            have HX := Lib.hid (takeEqSucc hkl hkm HT.out g1 g2)
            clear g1 g2
            generalize l[k].1 = x1 at *
            generalize l[k].2 = y1 at *
            generalize m[k].1 = x2 at *
            generalize m[k].2 = y2 at *
            go_wp2
            go_quiet (fail)
            go_wp2
            go_roundw
            case rel => exact ⟨k + 1, by omega, by go_num, HX, _, rfl⟩
            case measure => simp [intOf]; omega
          · have e2 : (l[k].2 == m[k].2) = false := by simpa using g2
            have HX := Lib.hid (HR.out.symm.trans (eqC_at hkl hkm (.inr g2)))
            clear g1 g2
            generalize l[k].1 = x1 at *
            generalize l[k].2 = y1 at *
            generalize m[k].1 = x2 at *
            generalize m[k].2 = y2 at *
            go_wp2
            go_quiet (fail)
            go_wp2
            go_ret
            exact ⟨retB HX.out.symm, _, World.drewN_drewN _ _ _⟩
        · have e1 : (l[k].1 == m[k].1) = false := by simpa using g1
          have HX := Lib.hid (HR.out.symm.trans (eqC_at hkl hkm (.inl g1)))
          clear g1
          generalize l[k].1 = x1 at *
          generalize l[k].2 = y1 at *
          generalize m[k].1 = x2 at *
          generalize m[k].2 = y2 at *
          go_wp2
          go_quiet (fail)
          go_wp2
          go_ret
          exact ⟨retB HX.out.symm, _, World.drewN_drewN _ _ _⟩
      · have HX := Lib.hid (HR.out.symm.trans (eqC_all (HN.out.trans HM.out.symm) (by have := HN.out; omega) HT.out))
        go_wp2
        go_ret
        exact ⟨retB HX.out.symm, _, rfl⟩
  · have HX := Lib.hid (HR.out.symm.trans (eqC_len (by have := HN.out; have := HM.out; omega)))
    have hne : ((n : Int) != (k : Int)) = true := by simp; omega
    go_enter Try.func33, Try.ntmps33
    go_wp2
    go_ret
    exact ⟨retB HX.out.symm, 0, rfl⟩
end Go.Proofs.Ytdppccipajfamaa
