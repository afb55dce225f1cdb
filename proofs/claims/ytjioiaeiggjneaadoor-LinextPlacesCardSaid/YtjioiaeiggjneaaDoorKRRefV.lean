/-
  The contract of the reference's Valid.
-/
import Derived.Test.YtjioiaeiggjneaaDoorKRVal
namespace Go.Proofs.YtjioiaeiggjneaaDoor
open Go.RowKit

set_option maxHeartbeats 2000000 in
theorem rValid (N : Int) (l : Prs) (n : Nat) (hn : l.length = n) (r : Bool) (hr : okR N l = r) (A : Option Addr) (c : Nat) (w : World) (ha : Rp w A c l) :
    Calls Tryd.prog 36 #[relV N A n c] w fun e w' => e = .returned (.bool r) ∧ Below w.heap.size w w' := by
  have hla := ha.le
  have hca := ha.max
  unfold maxLen at hca
  rw [hn] at hla
  have HR := Lib.hid hr; clear hr
  have HN := Lib.hid hn; clear hn
  obtain ⟨W, hW⟩ : ∃ W, w.alloc (.cells #[.int .i64 N, .slice A n c] 24) = W := ⟨_, rfl⟩
  have hbW : Below w.heap.size w W := by rw [← hW]; exact belowAlloc w _
  have c0 : W.cell? ⟨w.heap.size, 0, none⟩ = some (.int .i64 N) := by rw [← hW]; simp
  have c1 : W.cell? ⟨w.heap.size, 1, none⟩ = some (.slice A n c) := by rw [← hW]; simp
  have HA := Lib.hid (ha.below hbW); clear ha
  by_cases h0 : N < 0
  · have HX := Lib.hid (HR.out.symm.trans (okLow h0))
    go_enter Tryd.func36, Tryd.ntmps36
    go_wp2
    go_ret
    exact ⟨retB HX.out.symm, hbW⟩
  by_cases h1 : 64 < N
  · have HX := Lib.hid (HR.out.symm.trans (okHigh h1))
    go_enter Tryd.func36, Tryd.ntmps36
    go_wp2
    go_ret
    exact ⟨retB HX.out.symm, hbW⟩
  go_enter Tryd.func36, Tryd.ntmps36
  go_wp2
  go_loopw [3] (fun i wr => ∃ k : Nat, k ≤ n ∧ i = .int .i64 k ∧ Hid (okTo N l k) ∧ wr = W) (fun i _ => n - (intOf i).toNat)
  case atStart => exact ⟨0, Nat.zero_le _, rfl, Lib.hid (fun p hp => by simp at hp), rfl⟩
  case round =>
    obtain ⟨k, hk, rfl, HT, rfl⟩ := hrel
    by_cases hlt : k < n
    · have hkl : k < l.length := by have := HN.out; omega
      obtain ⟨b, off, rfl, had, hc1, hc2⟩ := HA.out.one hkl
      by_cases hin : inR N l[k]
      · have HX := Lib.hid (okSucc hkl HT.out hin)
        unfold inR at hin
        generalize l[k].1 = x at *
        generalize l[k].2 = y at *
        go_wp2
        all_goals (go_roundw; (case rel => exact ⟨k + 1, by omega, by go_num, HX, by first | trivial | rfl⟩); (case measure => simp [intOf]; omega))
      · have HX := Lib.hid (HR.out.symm.trans (okAt hkl hin))
        unfold inR at hin
        generalize l[k].1 = x at *
        generalize l[k].2 = y at *
        go_wp2
        all_goals first
          | (exfalso; omega)
          | (go_ret; exact ⟨retB HX.out.symm, hbW⟩)
    · have HX := Lib.hid (HR.out.symm.trans (okAll (by omega) (by omega) (by have := HN.out; omega) HT.out))
      go_wp2
      go_ret
      exact ⟨retB HX.out.symm, hbW⟩
end Go.Proofs.YtjioiaeiggjneaaDoor
