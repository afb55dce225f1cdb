/-
  The contract of checkLog: the error of a message log.
-/
import Derived.Test.YtdppccipajfamaaStWords
namespace Go.Proofs.Ytdppccipajfamaa
open Go.RowKit

set_option maxHeartbeats 400000 in
theorem iCheckLog (fr : List Int) (n m : Nat) (hm : fr.length = m) (r : Int) (hr : errL n m fr = r) (A B : Option Addr) (c d : Nat) (w : World) (hn : n ≤ maxLen) (hb : Rd w B d fr) :
    Calls Try.prog 34 #[.slice A n c, .slice B m d] w fun e w' => e = .returned (.int .i64 r) ∧ w = w' := by
  have hlb := hb.le
  have hcb := hb.max
  unfold maxLen at hcb hn
  have HB := Lib.hid hb; clear hb
  have HM := Lib.hid hm; clear hm
  by_cases hnm : n = m
  · subst hnm
    have hne : ((n : Int) != (n : Int)) = false := by simp
    by_cases hbig : 512 < n
    · have HR := Lib.hid ((errMany hbig).symm.trans hr); clear hr
      go_enter Try.func34, Try.ntmps34
      go_wp2
      go_ret
      exact ⟨retC HR.out, rfl⟩
    · have HR := Lib.hid hr; clear hr
      have HBG := Lib.hid hbig
      go_enter Try.func34, Try.ntmps34
      go_wp2
      go_loop [17] (fun i => ∃ k : Nat, k ≤ n ∧ i = .int .i64 k ∧ Hid (Log fr k)) (fun i => n - (intOf i).toNat)
      case atStart => exact ⟨0, Nat.zero_le _, rfl, Lib.hid fun j hj => by omega⟩
      case round =>
        obtain ⟨k, hk, rfl, HT⟩ := hrel
        by_cases hlt : k < n
        · have hkl : k < fr.length := by have := HM.out; omega
          obtain ⟨ad, rfl, _, hc⟩ := HB.out.one hkl
          by_cases g1 : fr[k] < -1
          · have HX := Lib.hid ((errBad HBG.out (logNot hkl hlt (.inl g1))).symm.trans HR.out)
            generalize fr[k] = x at *
            go_wp2
            go_ret
            exact ⟨retC HX.out, rfl⟩
          by_cases g2 : (k : Int) ≤ fr[k]
          · have HX := Lib.hid ((errBad HBG.out (logNot hkl hlt (.inr g2))).symm.trans HR.out)
            generalize fr[k] = x at *
            go_wp2
            go_ret
            exact ⟨retC HX.out, rfl⟩
          · have HX := Lib.hid (logSucc HT.out hkl (by omega) (by omega))
            generalize fr[k] = x at *
            go_wp2
            go_round
            case rel => exact ⟨k + 1, by omega, by go_num, HX⟩
            case measure => simp [intOf]; omega
        · obtain rfl : k = n := by omega
          have HX := Lib.hid ((errOk HBG.out HT.out).symm.trans HR.out)
          go_wp2
          go_ret
          exact ⟨retC HX.out, rfl⟩
  · have HR := Lib.hid ((errNe hnm).symm.trans hr); clear hr
    have hne : ((n : Int) != (m : Int)) = true := by simp; omega
    go_enter Try.func34, Try.ntmps34
    go_wp2
    go_ret
    exact ⟨retC HR.out, rfl⟩
end Go.Proofs.Ytdppccipajfamaa
