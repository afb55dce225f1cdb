/-
  The specification's First.
-/
import Derived.Test.YthigdniepifohaaDoorKRn5
import Derived.BigQuiet
namespace Go.Proofs.YthigdniepifohaaDoor
open Go Go.RowKit

theorem errAz {N : Int} {l : Prs} (hc : acyR N l = true) : errA N l = 0 := by
  unfold errA
  rw [if_pos (acyOk hc), if_pos hc]
theorem errAn {N : Int} {l : Prs} (hc : acyR N l = false) : (errA N l != 0) = true := by
  unfold errA
  rw [hc]
  split <;> simp
theorem nILen5 (l : List Nat) : (nI l).length = l.length := by unfold nI; exact List.length_map _
def slN : Value → Nat
  | .slice _ n _ => n
  | _ => 0
set_option maxRecDepth 100000 in
set_option maxHeartbeats 4000000 in
theorem rFirstNo (N : Int) (l : Prs) (n : Nat) (hn : l.length = n) (hc : acyR N l = false) (A : Option Addr) (c : Nat) (w : World) (ha : Rp w A c l) :
    Calls Tryd.prog 13 #[relV N A n c] w fun e w' => e = .returned (.tuple #[.slice none 0 0, .int .i64 (errA N l)]) ∧ Below w.heap.size w w' := by
  obtain ⟨W, hW⟩ : ∃ W, w.alloc (.cells #[.int .i64 N, .slice A n c] 24) = W := ⟨_, rfl⟩
  have hbW : Below w.heap.size w W := by rw [← hW]; exact belowAlloc w _
  have HB : Hid (BoxR W w.heap.size N (.slice A n c)) := by rw [← hW]; exact Lib.hid (BoxR.new w N _)
  obtain ⟨k0, k1, _, _⟩ := HB.out.facts
  have HV := Lib.hid (rWrong N l n hn A c W (ha.below hbW))
  have hne := errAn hc
  have HBW := Lib.hid hbW
  have HW := Lib.hid hW
  generalize errA N l = E at HV hne
  clear hbW hW ha hc
  go_enter Tryd.func13, Tryd.ntmps13
  go_wp2_with fail
  rw [HW.out]
  refine HV.out.mono ?_
  rintro e w1 ⟨rfl, b1⟩
  go_wp2
  go_ret2
  exact ⟨rfl, belowThen HBW.out b1⟩
set_option maxRecDepth 100000 in
set_option maxHeartbeats 4000000 in
theorem rFirstOk (N : Nat) (hN : N ≤ 64) (l : Prs) (n : Nat) (hn : l.length = n) (hc : acyR N l = true) (A : Option Addr) (c : Nat) (w : World) (ha : Rp w A c l) :
    Calls Tryd.prog 13 #[relV N A n c] w fun e w' => ∃ v, e = .returned (.tuple #[v, .int .i64 0]) ∧ OwnI w' w.heap.size v (nI (fstL N (hasP l) N 0)) ∧ Below w.heap.size w w' := by
  obtain ⟨W, hW⟩ : ∃ W, w.alloc (.cells #[.int .i64 N, .slice A n c] 24) = W := ⟨_, rfl⟩
  have hbW : Below w.heap.size w W := by rw [← hW]; exact belowAlloc w _
  have HB : Hid (BoxR W w.heap.size N (.slice A n c)) := by rw [← hW]; exact Lib.hid (BoxR.new w N _)
  obtain ⟨k0, k1, _, _⟩ := HB.out.facts
  have HK := Lib.hid (fun X (hX : Below W.heap.size W X) => (HB.out.below hX).facts)
  have hV := rWrong N l n hn A c W (ha.below hbW)
  rw [errAz hc] at hV
  have HV := Lib.hid hV
  have HNX := Lib.hid (fun o m (hm : o.length = m) B d X (hX : Below W.heap.size W X) (ho : Rd X B d o) => rNext N hN l n hn A c o m hm B d X ((ha.below hbW).below hX) ho)
  have HQ := Lib.hid (acyQ hc)
  have HOK := Lib.hid (acyOk hc)
  have hszW : w.heap.size ≤ W.heap.size := hbW.size
  have HBW := Lib.hid hbW
  have HW := Lib.hid hW
  clear hbW hW ha hc hV
  go_enter Tryd.func13, Tryd.ntmps13
  go_wp2_with fail
  rw [HW.out]
  refine HV.out.mono ?_
  rintro e w1 ⟨rfl, b1⟩
  clear k0 k1
  obtain ⟨V, hV⟩ : ∃ V, w1.alloc (.cells #[] 3) = V := ⟨_, rfl⟩
  have HO0 : Hid (OwnI V W.heap.size (.slice (some ⟨w1.heap.size, 0, none⟩) 0 0) (nI [])) := by rw [← hV]; exact Lib.hid (OwnI.made w1 W.heap.size b1.size)
  have HB0 := Lib.hid (show Below W.heap.size W V by rw [← hV]; exact belowThen b1 (belowAlloc w1 _))
  go_wp2_with fail
  try rw [hV]
  clear hV b1
  go_loopw [5, 6] (fun v _ wr => ∃ (k s : Nat) (pre : List Nat), k ≤ N ∧ slN v = k ∧ Hid (FstTo N (hasP l) k s pre) ∧ Hid (maskL pre = s) ∧ Hid (OwnI wr W.heap.size v (nI pre)) ∧ Hid (Below W.heap.size W wr)) (fun v _ _ => N - slN v)
  case atStart => exact ⟨0, 0, [], Nat.zero_le _, rfl, Lib.hid fstStart, Lib.hid rfl, HO0, HB0⟩
  case round =>
    obtain ⟨k, s, pre, hk, hsl, HF, HM, HO, HBR⟩ := hrel
    obtain ⟨A5, c5, rfl, r5, _⟩ := HO.out.rd
    obtain ⟨k0, k1, _, _⟩ := HK.out wr HBR.out
    have hlen : (nI pre).length = k := by rw [nILen5, HF.out.len]
    rw [hlen] at HO ⊢
    clear hsl
    by_cases hlt : k < N
    · obtain ⟨a, L, hnl, haN, hfn, hmk⟩ := nxHead HQ.out HF.out hlt hN HM.out
      have hcl := HNX.out (nI pre) k hlen A5 c5 wr HBR.out r5
      rw [nxEq HOK.out, hnl] at hcl
      have HCL := Lib.hid hcl
      have HFN := Lib.hid hfn
      have HMK := Lib.hid hmk
      clear hcl hfn hmk hnl r5
      go_wp2_with fail
      refine HCL.out.mono ?_
      rintro e w2 ⟨v6, rfl, o6, b2⟩
      obtain ⟨A6, c6, rfl, r6, _⟩ := o6.rd
      have hl6 : (nI (a :: L)).length = L.length + 1 := by rw [nILen5]; rfl
      rw [hl6]
      obtain ⟨a6, rfl, ha6, hc7⟩ := r6.one (k := 0) (by rw [hl6]; omega)
      have e6 : a6.add 0 = a6 := by obtain ⟨b, o, q⟩ := a6; rfl
      rw [e6] at hc7
      have hc6 : w2.cell? a6 = some (.int .i64 (a : Int)) := hc7
      clear hc7 e6
      have HO2 := Lib.hid (ownChg HO.out (Chg.ofBelow b2 fun _ => True) fun _ _ => trivial)
      have HB2 := Lib.hid (belowThen HBR.out b2)
      have hpl : (nI pre).length ≤ 64 := by omega
      have hzz : W.heap.size ≤ w2.heap.size := HB2.out.size
      have hn6 : (0 : Int) < (L.length : Int) + 1 := by omega
      clear o6 r6 b2 k0 k1
      go_wp2_with (at_builtin; refine appI _ rfl (.tmp 21) (.tmp 25) rfl W.heap.size _ (nI pre) rfl (HO2.out.alloc _) (some ⟨_, 0, none⟩) 1 1 [(a : Int)] rfl rfl (litI _ _) (by rw [List.length_singleton]; omega) (by simp; omega) ?_; intro v1 w4 o1 _ b4; have HO4 := Lib.hid (show OwnI w4 W.heap.size v1 (nI (pre ++ [a])) by unfold nI; rw [List.map_append]; exact o1); have HB4 := Lib.hid (stepA HB2.out b4); clear o1 b4)
      all_goals first
        | (exfalso; omega)
        | go_roundw
      case rel =>
        obtain ⟨A9, c9, rfl, _, _⟩ := HO4.out.rd
        exact ⟨k + 1, _, _, by omega, by rw [nILen5, HFN.out.len]; rfl, HFN, HMK, HO4, HB4⟩
      case measure =>
        obtain ⟨A9, c9, rfl, _, _⟩ := HO4.out.rd
        rw [nILen5, HFN.out.len]
        simp [slN]; omega
    · obtain rfl : k = N := by omega
      have e : pre = fstL k (hasP l) k 0 := by have := HF.out.eq; rw [Nat.sub_self, fstL, List.append_nil] at this; exact this.symm
      have HX := Lib.hid (ownMono HO.out hszW)
      rw [e] at HX
      have HY := Lib.hid (belowThen HBW.out HBR.out)
      go_wp2
      go_ret2
      exact ⟨_, rfl, HX.out, HY.out⟩
end Go.Proofs.YthigdniepifohaaDoor
