/-
  The specification's entered and Condition.
-/
import Derived.Test.YtkanamdfjegcbaaDoorFAwR
import Derived.Test.YtkanamdfjegcbaaDoorFAwM
import Derived.Test.YtkanamdfjegcbaaDoorFPgCl
import Derived.Test.YtkanamdfjegcbaaDoorFOp
import Derived.Test.YtkanamdfjegcbaaDoorFAwP
namespace Go.Proofs.YtkanamdfjegcbaaDoor
open Go Go.RowKit

set_option maxHeartbeats 2000000 in
theorem rEntered (nm : ByteArray) (C : List I8) (m : Nat) (hm : C.length = m) (n : Int) (A : Option Addr) (c : Nat) (w : World) (hr : RdE 8 EI w A c C) :
    Calls Tryd.prog 93 #[.agg #[.string nm, .slice A m c], .int .i64 n] w fun e w' => e = .returned (.bool (entB C n)) ∧ Below w.heap.size w w' := by
  obtain ⟨W, hW⟩ : ∃ W, w.alloc (.cells #[.string nm, .slice A m c] 24) = W := ⟨_, rfl⟩
  have hbW : Below w.heap.size w W := by rw [← hW]; exact belowAlloc w _
  have hB : Blk W w.heap.size 24 #[.string nm, .slice A m c] := by rw [← hW]; exact Blk.new w _ _
  have k0 : W.cell? ⟨w.heap.size, 0, none⟩ = some (.string nm) := hB.cell 0
  have k1 : W.cell? ⟨w.heap.size, 1, none⟩ = some (.slice A m c) := hB.cell 1
  have HF := Lib.hid (hr.below stabI hbW).at_
  have HM := Lib.hid hm
  have hle := hr.le
  have hmx := hr.max
  rw [hm] at hle
  unfold maxLen at hmx
  obtain ⟨r, hR⟩ : ∃ r, entB C n = r := ⟨_, rfl⟩
  rw [hR]
  have HR := Lib.hid hR
  have HW := Lib.hid hW
  have HBW := Lib.hid hbW
  clear hr hR hm hB hbW hW
  go_enter Tryd.func93, Tryd.ntmps93
  go_wp2_with fail
  rw [HW.out]
  go_wp2_with fail
  go_loopg [5] m (fun g i wr => ∃ k : Nat, k + g = m ∧ i = .int .i64 k ∧ wr = W ∧ Hid (NoTo C n k))
  case atStart => exact ⟨0, by omega, rfl, rfl, Lib.hid fun j _ h => by omega⟩
  case round =>
    obtain ⟨k, hk, rfl, rfl, HE⟩ := hrel
    cases gk with
    | zero =>
      have hkm : k = m := by omega
      subst hkm
      have hjz : ¬ ((k : Int) < k) := by omega
      have HX := Lib.hid (HE.out.all (by rw [HM.out]; omega))
      go_wp2
      go_ret
      exact ⟨by rw [← HR.out, HX.out]; rfl, HBW.out⟩
    | succ g2 =>
      have hk0 : (0 : Int) ≤ k := by omega
      have hk1 : (k : Int) < m := by omega
      have hkl : k < C.length := by rw [HM.out]; omega
      obtain ⟨q, off, rfl, _, hx⟩ := HF.out (by omega)
      have hx := hx k hkl
      have HNX := Lib.hid (fun e => HE.out.next hkl e)
      have HHT := Lib.hid (fun e => entHit (n := n) hkl e)
      obtain ⟨⟨x0, x1, x2, x3, x4, x5, x6, x7⟩, hi⟩ : ∃ i, C[k] = i := ⟨_, rfl⟩
      rw [hi] at hx HNX HHT
      have c0 := hx.c0
      have c5 := hx.c5
      simp only at c0 c5
      unfold entAw at HNX HHT
      simp only at HNX HHT
      clear hx hi
      by_cases g4 : x0 = 4 ∨ x0 = 5
      · by_cases g5 : x5 = n
        · have HX := Lib.hid (HHT.out (by rcases g4 with rfl | rfl <;> simp [g5]))
          have d5 : (x5 == n) = true := beq_iff_eq.2 g5
          clear HNX HHT g5
          rcases g4 with rfl | rfl
          · go_wp2
            go_ret
            exact ⟨by rw [← HR.out, HX.out]; rfl, HBW.out⟩
          · go_wp2
            go_ret
            exact ⟨by rw [← HR.out, HX.out]; rfl, HBW.out⟩
        · have HX := Lib.hid (HNX.out (by simp [g5]))
          have d5 : (x5 == n) = false := beq_eq_false_iff_ne.2 g5
          clear HNX HHT g5
          rcases g4 with rfl | rfl
          · go_wp2
            go_roundg g2
            case measure => omega
            case rel => exact ⟨k + 1, by omega, by go_num, rfl, HX⟩
          · go_wp2
            go_roundg g2
            case measure => omega
            case rel => exact ⟨k + 1, by omega, by go_num, rfl, HX⟩
      · have d4 : (x0 == 4) = false := beq_eq_false_iff_ne.2 fun h => g4 (.inl h)
        have d5 : (x0 == 5) = false := beq_eq_false_iff_ne.2 fun h => g4 (.inr h)
        have HX := Lib.hid (HNX.out (by rw [d4, d5]; rfl))
        clear HNX HHT g4
        go_wp2
        go_roundg g2
        case measure => omega
        case rel => exact ⟨k + 1, by omega, by go_num, rfl, HX⟩
/-- The instruction that Condition gives. -/
def cnI (C : List I8) (n : Nat) : I8 := if spB C n = true then awAt C n else I8.zero
def GivesCn (C : List I8) (n : Nat) (w : World) (e : Ending) (w' : World) : Prop := e = .returned (.tuple #[(cnI C n).val, .bool (spB C n)]) ∧ Below w.heap.size w w'
theorem cnNo {C : List I8} {n : Nat} (h : spB C n = false) : Ending.returned (.tuple #[.agg zeros8, .bool false]) = .returned (.tuple #[(cnI C n).val, .bool (spB C n)]) := by unfold cnI; rw [h]; rfl
theorem cnYes {C : List I8} {n : Nat} (h : spB C n = true) {l c : I8} (hl : C.getD n I8.zero = l) (hc : C.getD (n + 1) I8.zero = c) : (cnI C n).val = (awOf l c).val := by unfold cnI awAt; rw [if_pos h, hl, hc]
set_option maxRecDepth 100000 in
set_option maxHeartbeats 800000 in
theorem rCondOut (nm : ByteArray) (C : List I8) (m : Nat) (hm : C.length = m) (n : Nat) (hn : m ≤ n + 2) (hn1 : n ≤ 1000) (A : Option Addr) (c : Nat) (w : World) (hr : RdE 8 EI w A c C) :
    Calls Tryd.prog 60 #[.agg #[.string nm, .slice A m c], .int .i64 (n : Int)] w (GivesCn C n w) := by
  have HNO := Lib.hid (cnNo (spOut (C := C) (n := n) (by omega)))
  obtain ⟨W0, hW0⟩ : ∃ W, w.alloc (.cells #[.string nm, .slice A m c] 24) = W := ⟨_, rfl⟩
  obtain ⟨W, hW⟩ : ∃ W, W0.alloc (.cells zeros8 44) = W := ⟨_, rfl⟩
  have hbW : Below w.heap.size w W := by rw [← hW, ← hW0]; exact belowThen (belowAlloc _ _) (belowAlloc _ _)
  have hB : Blk W w.heap.size 24 #[.string nm, .slice A m c] := by rw [← hW, ← hW0]; exact (Blk.new w _ _).alloc _
  have hR : Blk W (w.heap.size + 1) 44 zeros8 := by rw [← hW, ← hW0]; exact Blk.new1 w _ _ _
  have k0 : W.cell? ⟨w.heap.size, 0, none⟩ = some (.string nm) := hB.cell 0
  have k1 : W.cell? ⟨w.heap.size, 1, none⟩ = some (.slice A m c) := hB.cell 1
  have HRB := Lib.hid hR
  have HBW := Lib.hid hbW
  have HW := Lib.hid hW
  have HW0 := Lib.hid hW0
  obtain ⟨⟨g0, g1, g2, g3, g4, g5, g6, g7⟩, f0, f1, f2, f3, f4, f5, f6, f7⟩ := blkFacts hR
  have hle := hr.le
  have hmx := hr.max
  rw [hm] at hle
  unfold maxLen at hmx
  have h0 : ¬ ((n : Int) < 0) := by omega
  have h3 : (m : Int) - 3 < (n : Int) := by omega
  clear hr hm hB hR hbW hW hW0
  unfold zeros8 at HW
  unfold GivesCn
  go_enter Tryd.func60, Tryd.ntmps60
  go_wp2_with fail
  rw [HW0.out, HW.out]
  go_wp2_with fail
  refine bodyPost_ret (HRB.out.res2 rfl _ rfl Tryd.underlying44 rfl infoInst) rfl ?_
  exact ⟨HNO.out, HBW.out⟩
end Go.Proofs.YtkanamdfjegcbaaDoor
