/-
  The contracts of the small functions on sets: smallest, has, with, without, numbers, full.
-/
import Derived.Test.YtjioiaeiggjneaaDoorKLinB
import Derived.Test.YtjioiaeiggjneaaDoorKChg
import Derived.Test.YtjioiaeiggjneaaDoorProg
import Derived.WalkKit
import Derived.WalkLawsBesides
import Derived.Outline
import Derived.Lib.Hide
import Derived.KernelRfl
namespace Go.Proofs.YtjioiaeiggjneaaDoor
open Go.RowKit

/-- The library's table lies in its variable. -/
def Tbl (w : World) : Prop := TabAt 0 Lib.deBruijn64tab w
theorem Tbl.below {w w' : World} (h : Tbl w) (hb : Below w.heap.size w w') : Tbl w' := fun j hj => by
  have h1 := h j hj
  exact (hb.cell (World.block_lt_of_cell? w _ h1)).trans h1
theorem retU {a b : Int} (h : a = b) : Ending.returned (.int .u64 a) = .returned (.int .u64 b) := by rw [h]
theorem iWith (s a : Nat) (hs : s < B64) (ha : a < 64) (w : World) : Calls Tryd.prog 20 #[.int .u64 s, .int .i64 a] w fun e w' => e = .returned (.int .u64 (addS s a)) ∧ w = w' := by
  have HX := Lib.hid (bitsOr hs ha)
  go_enter Tryd.func20, Tryd.ntmps20
  go_wp2
  go_ret
  exact ⟨retU HX.out, rfl⟩
theorem iWithout (s a : Nat) (ha : a < 64) (w : World) : Calls Tryd.prog 35 #[.int .u64 s, .int .i64 a] w fun e w' => e = .returned (.int .u64 (rmS s a)) ∧ w = w' := by
  have HX := Lib.hid (bitsRm (s := s) ha)
  go_enter Tryd.func35, Tryd.ntmps35
  go_wp2
  go_ret
  exact ⟨retU HX.out, rfl⟩
theorem iHasS (s : Nat) (a : Int) (hs : s < B64) (r : Bool) (hr : (decide (0 ≤ a) && s.testBit a.toNat) = r) (w : World) : Calls Tryd.prog 33 #[.int .u64 s, .int .i64 a] w fun e w' => e = .returned (.bool r) ∧ w = w' := by
  by_cases ha : 0 ≤ a
  · have HX := Lib.hid ((bitsHas hs a).trans (show s.testBit a.toNat = r by rw [← hr, decide_eq_true ha, Bool.true_and]))
    clear hr
    go_enter Tryd.func33, Tryd.ntmps33
    go_wp2
    go_ret
    exact ⟨retB HX.out, rfl⟩
  · have hr : r = false := by rw [← hr, decide_eq_false ha]; rfl
    subst hr
    have q : decide (a ≥ 0) = false := by simp; omega
    go_enter Tryd.func33, Tryd.ntmps33
    go_wp2
    go_ret
    exact ⟨rfl, rfl⟩
theorem iFull (N : Nat) (hN : N ≤ 64) (A : Option Addr) (c : Nat) (w : World) : Calls Tryd.prog 34 #[.slice A N c] w fun e w' => e = .returned (.int .u64 (fullS N)) ∧ w = w' := by
  have h := wrapFull hN
  rw [Nat.min_eq_left hN] at h
  have HX := Lib.hid h; clear h
  go_enter Tryd.func34, Tryd.ntmps34
  go_wp2
  go_ret
  exact ⟨retU HX.out, rfl⟩
theorem iTz (s : Nat) (hs : s < B64) (h0 : s ≠ 0) (w : World) (hT : Tbl w) : Calls Tryd.prog 40 #[.int .u64 s] w fun e w' => e = .returned (.int .i64 (lowS s)) ∧ w = w' := by
  obtain ⟨hlow, hk⟩ := Lib.lowest_bit 64 s h0 (b64Pow ▸ hs)
  obtain ⟨hi, htab⟩ := Lib.deBruijn64_at _ hk
  have hcell := hT _ hi
  rw [htab] at hcell
  have key := tz64_key s _ hs h0 hlow
  have hx0 : ((s : Int) == 0) = false := by simp; omega
  obtain ⟨idx, hidx⟩ : ∃ idx, 2 ^ Lib.ctz 64 s * 285870213051353865 % 18446744073709551616 / 288230376151711744 = idx := ⟨_, rfl⟩
  rw [hidx] at key hcell hi
  have e : Lib.ctz 64 s = lowS s := rfl
  rw [e] at hcell
  have hi : idx < 64 := hi
  have hlo : lowS s < 64 := hk
  clear hlow hidx htab e hk
  go_enter Tryd.func40, Tryd.ntmps40
  go_wp2_with (simp only [key])
  go_ret
  exact ⟨rfl, rfl⟩
theorem iLow (s : Nat) (hs : s < B64) (h0 : s ≠ 0) (w : World) (hT : Tbl w) : Calls Tryd.prog 26 #[.int .u64 s] w fun e w' => e = .returned (.int .i64 (lowS s)) ∧ w = w' := by
  have HX := Lib.hid (iTz s hs h0 w hT)
  clear hT h0 hs
  go_enter Tryd.func26, Tryd.ntmps26
  go_wp2_with fail
  refine HX.out.mono ?_
  rintro e w1 ⟨rfl, rfl⟩
  go_wp2
  go_ret
  exact ⟨rfl, rfl⟩
end Go.Proofs.YtjioiaeiggjneaaDoor
