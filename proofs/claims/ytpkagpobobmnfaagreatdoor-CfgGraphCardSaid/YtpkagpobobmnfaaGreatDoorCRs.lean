/-
  Two pairs are compared as a whole.
-/
import Derived.Test.YtpkagpobobmnfaaGreatDoorCRow
import Derived.Test.YtpkagpobobmnfaaGreatDoorCRn
import Derived.DeepKeys
import Derived.Deep.QuietTactic
import Derived.BigQuiet
import Derived.RegionTactic
import Derived.ChangeAlike
import Derived.BigRegion
namespace Go.Proofs.YtpkagpobobmnfaaGreatDoor
open Go.RowKit Go.Maps

theorem eqPair (x y u v : Int) (w : World) : (Op.equalIn 10000 66 (.agg #[.int .i64 x, .int .i64 y]) (.agg #[.int .i64 u, .int .i64 v])).run Tryz.prog w = .ok (decide (x = u) && decide (y = v)) w := by
  obtain ⟨i0, hi, hz0, hz1, hz2⟩ := info_parts infoInt
  have hc : Tryz.prog.cellsOf 3 = 1 := by kernel_rfl
  rw [run_equalIn_array (P := Tryz.prog) w 9999 #[.int .i64 x, .int .i64 y] #[.int .i64 u, .int .i64 v] Tryz.underlying66 hi, hc]
  have hp0 : ∀ (a b : Int), (part 3 #[.int .i64 a, .int .i64 b] 0).run Tryz.prog w = .ok (.int .i64 a) w := fun a b => by kernel_rfl
  have hp1 : ∀ (a b : Int), (part 3 #[.int .i64 a, .int .i64 b] 1).run Tryz.prog w = .ok (.int .i64 b) w := fun a b => by kernel_rfl
  have he : ∀ (a b : Int), (Op.equalIn 9999 3 (.int .i64 a) (.int .i64 b)).run Tryz.prog w = .ok (decide (a = b)) w := fun a b => by
    rw [show (9999 : Nat) = 9998 + 1 from rfl, run_equalIn_int w 9998 3 .i64 .i64 a b Tryz.underlying3]
    congr 1
  rw [show List.range 2 = [0, 1] from rfl]
  by_cases h1 : x = u
  · by_cases h2 : y = v
    · simp [Op.eqItems, hp0, hp1, he, h1, h2]
    · simp [Op.eqItems, hp0, hp1, he, h1, h2]
  · simp [Op.eqItems, hp0, he, h1]
end Go.Proofs.YtpkagpobobmnfaaGreatDoor

namespace Go.Proofs.YtpkagpobobmnfaaGreatDoor
open Go.RowKit Go.Maps

/-- The first k pairs are the same. -/
def eqTo (l m : Prs) (k : Nat) : Prop := l.take k = m.take k
theorem eqNext {l m : Prs} {k : Nat} (h : eqTo l m k) (hl : k < l.length) (hm : k < m.length) (e1 : l[k].1 = m[k].1) (e2 : l[k].2 = m[k].2) : eqTo l m (k + 1) := by
  unfold eqTo at h ⊢
  rw [List.take_succ_eq_append_getElem hl, List.take_succ_eq_append_getElem hm, h, Prod.ext e1 e2]
theorem eqNo {N M : Int} {l m : Prs} {k : Nat} (hl : k < l.length) (hm : k < m.length) (h : ¬ (l[k].1 = m[k].1 ∧ l[k].2 = m[k].2)) : sameR N l M m = false := by
  cases e : sameR N l M m
  · rfl
  · have := (sameIff.1 e).2
    subst this
    exact absurd ⟨rfl, rfl⟩ h
set_option maxHeartbeats 2000000 in
theorem rSame (N M : Int) (l m : Prs) (n k : Nat) (hn : l.length = n) (hm : m.length = k) (r : Bool) (hr : sameR N l M m = r) (hs : n ≤ 65536) (A B : Option Addr) (c d : Nat) (w : World) (ha : Rp w A c l) (hb : Rp w B d m) :
    Calls Tryz.prog 9 #[relV N A n c, relV M B k d] w fun e w' => e = .returned (.bool r) ∧ Below w.heap.size w w' := by
  obtain ⟨W, hW, hB0, hB1, hbW, hzW⟩ := twoBoxes w N M (.slice A n c) (.slice B k d)
  have hla := ha.le
  have hca := ha.max
  have hlb := hb.le
  have hcb := hb.max
  unfold maxLen at hca hcb
  have HA := Lib.hid (ha.below hbW); clear ha
  have HB := Lib.hid (hb.below hbW); clear hb
  have HN := Lib.hid hn; clear hn
  have HM := Lib.hid hm; clear hm
  obtain ⟨c0, c1, _, _⟩ := hB0.facts
  obtain ⟨c2, c3, _, _⟩ := hB1.facts
  rw [HN.out] at hla
  rw [HM.out] at hlb
  by_cases hNM : N = M
  · by_cases hnk : n = k
    · subst hNM
      subst hnk
      have HR := Lib.hid hr; clear hr
      have hq1 : (N == N) = true := by simp
      go_enter Tryz.func9, Tryz.ntmps9
      go_wp2
      go_loopw [5] (fun v wr => ∃ i q : Nat, i ≤ n ∧ v = .int .i64 i ∧ Hid (eqTo l m i) ∧ wr = W.drewN q) (fun v _ => n - (intOf v).toNat)
      case atStart => exact ⟨0, 0, Nat.zero_le _, rfl, Lib.hid rfl, rfl⟩
      case round =>
        obtain ⟨i, q, hi, rfl, HE, rfl⟩ := hrel
        by_cases hlt : i < n
        · have hil : i < l.length := by rw [HN.out]; exact hlt
          have him : i < m.length := by rw [HM.out]; exact hlt
          obtain ⟨b1, o1, rfl, _, h1, h2⟩ := HA.out.one hil
          obtain ⟨b2, o2, rfl, _, h3, h4⟩ := HB.out.one him
          by_cases he : l[i].1 = m[i].1 ∧ l[i].2 = m[i].2
          · have HX := Lib.hid (eqNext HE.out hil him he.1 he.2)
            obtain ⟨e1, e2⟩ := he
            rw [← e1] at h3
            rw [← e2] at h4
            clear e1 e2
            generalize l[i].1 = x at *
            generalize l[i].2 = y at *
            have heq : ∀ w', (Op.equalIn 10000 66 (.agg #[.int .i64 x, .int .i64 y]) (.agg #[.int .i64 x, .int .i64 y])).run Tryz.prog w' = .ok true w' := fun w' => by rw [eqPair]; simp
            go_wp2
            go_quiet (fail)
            go_wp2
            go_roundw
            case rel => exact ⟨i + 1, _, by omega, by go_num, HX, rfl⟩
            case measure => simp [intOf]; omega
          · have HX := Lib.hid (HR.out.symm.trans (eqNo hil him he))
            generalize l[i].1 = x at *
            generalize l[i].2 = y at *
            generalize m[i].1 = u at *
            generalize m[i].2 = v at *
            have heq : ∀ w', (Op.equalIn 10000 66 (.agg #[.int .i64 x, .int .i64 y]) (.agg #[.int .i64 u, .int .i64 v])).run Tryz.prog w' = .ok false w' := fun w' => by
              rw [eqPair]
              congr 1
              rw [← Bool.decide_and]
              exact decide_eq_false he
            go_wp2
            go_quiet (fail)
            go_wp2
            go_ret
            exact ⟨retB HX.out.symm, belowDrewN (belowDrewN hbW _) _⟩
        · obtain rfl : i = n := by omega
          have HX := Lib.hid (show r = true by
            rw [← HR.out, sameIff]
            have h := HE.out
            unfold eqTo at h
            rw [List.take_of_length_le (by rw [HN.out]; exact Nat.le_refl _), List.take_of_length_le (by rw [HM.out]; exact Nat.le_refl _)] at h
            exact ⟨rfl, h⟩)
          go_wp2
          go_ret
          exact ⟨retB HX.out.symm, belowDrewN hbW _⟩
    · subst hNM
      have HX := Lib.hid (show r = false by
        rw [← hr]
        cases e : sameR N l N m
        · rfl
        · have := (sameIff.1 e).2
          subst this
          exact absurd (HN.out.symm.trans HM.out) hnk)
      have hq1 : (N == N) = true := by simp
      have hq2 : ((n : Int) == (k : Int)) = false := by simp; omega
      go_enter Tryz.func9, Tryz.ntmps9
      go_wp2
      go_ret
      exact ⟨retB HX.out.symm, hbW⟩
  · have HX := Lib.hid (show r = false by
      rw [← hr]
      cases e : sameR N l M m
      · rfl
      · exact absurd (sameIff.1 e).1 hNM)
    have hq1 : (N == M) = false := by simp; exact hNM
    go_enter Tryz.func9, Tryz.ntmps9
    go_wp2
    go_ret
    exact ⟨retB HX.out.symm, hbW⟩
end Go.Proofs.YtpkagpobobmnfaaGreatDoor
