/-
  The contract of the reference's agents: the agents of two clocks in increasing order.
-/
import Derived.Test.YtdppccipajfamaaClkOps
import Derived.Test.YtdppccipajfamaaAgMath
namespace Go.Proofs.Ytdppccipajfamaa
open Go.RowKit

theorem Rd.litC (w : World) (x : Int) : Rd (w.alloc (.cells #[.int .i64 x] 3)) (some ⟨w.heap.size, 0, none⟩) 1 [x] := Rd.lit w [x] 3 (by simp)
theorem OwnI.drewN {w : World} {base : Nat} {v : Value} {l : List Int} (h : OwnI w base v l) (n : Nat) : OwnI (w.drewN n) base v l := h
set_option maxHeartbeats 1000000 in
theorem rAgents (a b : Ck) (n m : Nat) (hn : a.length = n) (hm : b.length = m) (r : List Int) (hr : ags a b = r) (hs : n ≤ 65536) (hs' : m ≤ 65536) (A B : Option Addr) (c d : Nat) (w : World) (ha : Rc w A c a) (hb : Rc w B d b) :
    Calls Try.prog 29 #[.slice A n c, .slice B m d] w (GivesL r w) := by
  have hla := ha.le
  have hlb := hb.le
  rw [hn] at hla
  rw [hm] at hlb
  have hca := ha.max
  have hcb := hb.max
  unfold maxLen at hca hcb
  have HA := Lib.hid ha; clear ha
  have HB := Lib.hid hb; clear hb
  have HN := Lib.hid hn; clear hn
  have HM := Lib.hid hm; clear hm
  have HR := Lib.hid (show [] ++ ags (a.drop 0) (b.drop 0) = r from hr); clear hr
  have hO := Lib.hid (OwnI.nil w w.heap.size)
  go_enter Try.func29, Try.ntmps29
  go_wp2
  go_loopw [5, 6, 7] (fun vo vi vk wr => ∃ (i k : Nat) (s : List Int), vi = .int .i64 i ∧ vk = .int .i64 k ∧ i ≤ n ∧ k ≤ m ∧ s.length ≤ i + k ∧ Hid (s ++ ags (a.drop i) (b.drop k) = r) ∧ OwnI wr w.heap.size vo s ∧ Below w.heap.size w wr) (fun _ vi vk _ => n + m - (intOf vi).toNat - (intOf vk).toNat)
  case atStart => exact ⟨0, 0, [], rfl, rfl, Nat.zero_le _, Nat.zero_le _, by simp, HR, hO.out, Below.refl _ _⟩
  case round =>
    clear HR hO
    obtain ⟨i, k, s, rfl, rfl, hi, hk, hsl, HT, os, hb⟩ := hrel
    by_cases hin : i < n
    · have hil : i < a.length := by have := HN.out; omega
      obtain ⟨p1, off1, rfl, hbl1, hc0, hc2⟩ := HA.out.one hil
      have hc1 := (hb.cell hbl1).trans hc0
      clear hc2
      by_cases hkm : k < m
      · have hkl : k < b.length := by have := HM.out; omega
        have hkne : decide (k = m) = false := by simp; omega
        have hkne' : ((k : Int) == (m : Int)) = false := by simp; omega
        obtain ⟨p2, off2, rfl, hbl2, hd0, hd2⟩ := HB.out.one hkl
        have hd1 := (hb.cell hbl2).trans hd0
        clear hd2
        rcases Int.lt_trichotomy a[i].1 b[k].1 with g | g | g
        · have HS := Lib.hid (agNext HT.out (agStepLt hil hkl g))
          have hg : decide (a[i].1 < b[k].1) = true := by simpa using g
          clear g
          generalize a[i].1 = x at *
          generalize b[k].1 = y at *
          go_wp2
          go_quiet (fail)
          go_wp2_with (at_builtin; refine appI _ rfl (.tmp 41) (.tmp 47) rfl w.heap.size _ _ rfl ((os.drewN _).alloc _) (some ⟨_, 0, none⟩) 1 1 [x] rfl rfl (Rd.litC _ _) (by simp; omega) (by have := hb.size; simp; omega) ?_; intro v1 w1 o1 _ b1; have B1 := stepA (belowDrewN hb _) b1)
          go_roundw
          case rel => exact ⟨i + 1, k, _, by go_num, by go_num, by omega, by omega, by rw [List.length_append]; simp; omega, HS, o1, B1⟩
          case measure => simp [intOf]; omega
        · have HS := Lib.hid (agNext HT.out (agStepEq hil hkl g))
          have hg1 : decide (a[i].1 < b[k].1) = false := by simp; omega
          have hg2 : (a[i].1 == b[k].1) = true := by simpa using g
          clear g
          generalize a[i].1 = x at *
          generalize b[k].1 = y at *
          go_wp2
          go_quiet (fail)
          go_wp2_with (at_builtin; refine appI _ rfl (.tmp 51) (.tmp 57) rfl w.heap.size _ _ rfl ((os.drewN _).alloc _) (some ⟨_, 0, none⟩) 1 1 [y] rfl rfl (Rd.litC _ _) (by simp; omega) (by have := hb.size; simp; omega) ?_; intro v1 w1 o1 _ b1; have B1 := stepA (belowDrewN hb _) b1; have hc3 := (B1.cell hbl1).trans hc0; have hd3 := (B1.cell hbl2).trans hd0)
          go_quiet (fail)
          go_wp2
          go_roundw
          case rel => exact ⟨i + 1, k + 1, _, by go_num, by go_num, by omega, by omega, by rw [List.length_append]; simp; omega, HS, OwnI.drewN o1 _, belowDrewN B1 _⟩
          case measure => simp [intOf]; omega
        · have HS := Lib.hid (agNext HT.out (agStepGt hil hkl g))
          have hg1 : decide (a[i].1 < b[k].1) = false := by simp; omega
          have hg2 : (a[i].1 == b[k].1) = false := by simp; omega
          clear g
          generalize a[i].1 = x at *
          generalize b[k].1 = y at *
          go_wp2
          go_quiet (fail)
          go_wp2_with (at_builtin; refine appI _ rfl (.tmp 51) (.tmp 57) rfl w.heap.size _ _ rfl ((os.drewN _).alloc _) (some ⟨_, 0, none⟩) 1 1 [y] rfl rfl (Rd.litC _ _) (by simp; omega) (by have := hb.size; simp; omega) ?_; intro v1 w1 o1 _ b1; have B1 := stepA (belowDrewN hb _) b1; have hc3 := (B1.cell hbl1).trans hc0; have hd3 := (B1.cell hbl2).trans hd0)
          go_quiet (fail)
          go_wp2
          go_roundw
          case rel => exact ⟨i, k + 1, _, by go_num, by go_num, by omega, by omega, by rw [List.length_append]; simp; omega, HS, OwnI.drewN o1 _, belowDrewN B1 _⟩
          case measure => simp [intOf]; omega
      · obtain rfl : k = m := by omega
        have HS := Lib.hid (agNext HT.out (agStepA hil (by have := HM.out; omega)))
        generalize a[i].1 = x at *
        go_wp2
        go_quiet (fail)
        go_wp2_with (at_builtin; refine appI _ rfl (.tmp 41) (.tmp 47) rfl w.heap.size _ _ rfl ((os.drewN _).alloc _) (some ⟨_, 0, none⟩) 1 1 [x] rfl rfl (Rd.litC _ _) (by simp; omega) (by have := hb.size; simp; omega) ?_; intro v1 w1 o1 _ b1; have B1 := stepA (belowDrewN hb _) b1)
        go_roundw
        case rel => exact ⟨i + 1, k, _, by go_num, by go_num, by omega, by omega, by rw [List.length_append]; simp; omega, HS, o1, B1⟩
        case measure => simp [intOf]; omega
    · obtain rfl : i = n := by omega
      by_cases hkm : k < m
      · have hkl : k < b.length := by have := HM.out; omega
        have hkne' : ((k : Int) == (m : Int)) = false := by simp; omega
        have hin' : decide (i < i) = false := by simp
        obtain ⟨p2, off2, rfl, hbl2, hd0, hd2⟩ := HB.out.one hkl
        have hd1 := (hb.cell hbl2).trans hd0
        clear hd2
        have HS := Lib.hid (agNext HT.out (agStepB (by have := HN.out; omega) hkl))
        generalize b[k].1 = y at *
        go_wp2
        go_quiet (fail)
        go_wp2_with (at_builtin; refine appI _ rfl (.tmp 51) (.tmp 57) rfl w.heap.size _ _ rfl ((os.drewN _).alloc _) (some ⟨_, 0, none⟩) 1 1 [y] rfl rfl (Rd.litC _ _) (by simp; omega) (by have := hb.size; simp; omega) ?_; intro v1 w1 o1 _ b1; have B1 := stepA (belowDrewN hb _) b1)
        go_quiet (fail)
        go_wp2
        go_roundw
        case rel => exact ⟨i, k + 1, _, by go_num, by go_num, by omega, by omega, by rw [List.length_append]; simp; omega, HS, OwnI.drewN o1 _, belowDrewN B1 _⟩
        case measure => simp [intOf]; omega
      · obtain rfl : k = m := by omega
        have e : s = r := by
          have := HT.out
          rw [agEnd (by have := HN.out; omega) (by have := HM.out; omega), List.append_nil] at this
          exact this
        have HE := Lib.hid e; clear e
        obtain ⟨A', c', rfl, r1, _⟩ := os.rd
        go_wp2
        go_ret
        rw [← HE.out]
        exact ⟨A', c', rfl, r1, hb⟩
end Go.Proofs.Ytdppccipajfamaa
