/-
  The law LivenessBefore returns true for every function, where the tables are laid.
-/
import Derived.Test.YtkanamdfjegcbaaDoorBLfRb
namespace Go.Proofs.YtkanamdfjegcbaaDoor
open Go Go.RowKit Go.Shelf

set_option maxRecDepth 100000 in
set_option maxHeartbeats 8000000 in
theorem lawBefore (nm : ByteArray) (C : List I8) (n : Nat) (hn : C.length = n) (A : Option Addr) (c : Nat) (w : World) (h : CdW w A c C) :
    Calls Tryd.prog 3 #[fnV nm A n c] w (LawOkL w) := by
  obtain ⟨W, hW⟩ : ∃ W, w.alloc (.cells #[.string nm, .slice A n c] 24) = W := ⟨_, rfl⟩
  have hbW : Below w.heap.size w W := by rw [← hW]; exact belowAlloc w _
  have hB : Blk W w.heap.size 24 #[.string nm, .slice A n c] := by rw [← hW]; exact Blk.new w _ _
  have k0 : W.cell? ⟨w.heap.size, 0, none⟩ = some (.string nm) := hB.cell 0
  have k1 : W.cell? ⟨w.heap.size, 1, none⟩ = some (.slice A n c) := hB.cell 1
  have HK := Lib.hid (fun X (hX : Below W.heap.size W X) => (⟨(hB.below' hX).cell 0, (hB.below' hX).cell 1⟩ : X.cell? ⟨w.heap.size, 0, none⟩ = some (.string nm) ∧ X.cell? ⟨w.heap.size, 1, none⟩ = some (.slice A n c)))
  have hcd := h.below hbW
  have HEX := Lib.hid (fun X (hX : Below W.heap.size W X) => awakeL X (hcd.ld.below hX))
  have HB1 := Lib.hid (iBeforeL nm C n hn A c W hcd)
  have HB2 := Lib.hid (fun X (hX : Below W.heap.size W X) => rBefore13 nm C n hn A c X (hcd.below hX))
  have HP1 := Lib.hid (fun X (hX : Below W.heap.size W X) => iPressure nm C n hn A c X (hcd.below hX))
  have HP2 := Lib.hid (fun X (hX : Below W.heap.size W X) => rPressure13 nm C n hn A c X (hcd.below hX))
  have HW := Lib.hid hW
  have HBW := Lib.hid hbW
  have hle := h.rd.le
  have hmx := h.rd.max
  rw [hn] at hle
  unfold maxLen at hmx
  generalize prR C = P at HP1 HP2
  generalize cfE C = E at HB1 HB2 HP1 HP2
  unfold GivesQL at HB1 HB2
  obtain ⟨ls, hls⟩ : ∃ ls, beR C = ls := ⟨_, rfl⟩
  rw [hls] at HB1 HB2
  obtain ⟨q, hq⟩ : ∃ q, ls.length = q := ⟨_, rfl⟩
  rw [hq] at HB1 HB2
  have HQ := Lib.hid hq
  unfold fnV at HB1 HB2 HP1 HP2 ⊢
  clear h hB hW hbW hcd hn hls hq
  by_cases hbig : 100 < n
  · have d1 : (100 : Int) < (n : Int) := by omega
    have HX := Lib.hid (HEX.out W (Below.refl _ _))
    go_enter Tryd.func3, Tryd.ntmps3
    go_wp2_with fail
    rw [HW.out]
    refine HX.out.mono ?_
    rintro e w1 ⟨rfl, b1⟩
    go_wp2
    go_ret
    exact ⟨rfl, belowThen HBW.out b1⟩
  have d1 : ¬ ((100 : Int) < (n : Int)) := by omega
  clear hbig
  go_enter Tryd.func3, Tryd.ntmps3
  go_wp2_with fail
  rw [HW.out]
  refine HB1.out.mono ?_
  rintro e w1 ⟨A1, c1, rfl, r1, b1⟩
  have HR1 := Lib.hid r1
  have HS1 := Lib.hid b1
  have HC2 := Lib.hid (HB2.out w1 b1)
  clear k0 k1 r1
  obtain ⟨k0, k1⟩ := HK.out w1 b1
  clear b1 HB1 HB2
  go_wp2_with fail
  refine HC2.out.mono ?_
  rintro e w2 ⟨A2, c2, rfl, r2, b2⟩
  have HR2 := Lib.hid r2
  have HR1b := Lib.hid (HR1.out.below b2)
  have hS2 := belowThen HS1.out b2
  have HS2 := Lib.hid hS2
  have HC3 := Lib.hid (HP1.out w2 hS2)
  clear k0 k1 r2 b2 HR1
  obtain ⟨k0, k1⟩ := HK.out w2 hS2
  clear hS2
  go_wp2_with fail
  refine HC3.out.mono ?_
  rintro e w3 ⟨rfl, b3⟩
  have HR1c := Lib.hid (HR1b.out.below b3)
  have HR2c := Lib.hid (HR2.out.below b3)
  have hS3 := belowThen HS2.out b3
  have HS3 := Lib.hid hS3
  have HC4 := Lib.hid (HP2.out w3 hS3)
  clear k0 k1 b3 HR1b HR2
  obtain ⟨k0, k1⟩ := HK.out w3 hS3
  clear hS3
  go_wp2_with fail
  refine HC4.out.mono ?_
  rintro e w4 ⟨rfl, b4⟩
  have HR1d := Lib.hid (HR1c.out.below b4)
  have HR2d := Lib.hid (HR2c.out.below b4)
  have HS4 := Lib.hid (belowThen HS3.out b4)
  have HX := Lib.hid (HEX.out w4 HS4.out)
  clear k0 k1 b4 HR1c HR2c
  go_wp2_with fail
  refine HX.out.mono ?_
  rintro e w5 ⟨rfl, b5⟩
  have HLI := Lib.hid (rListsI ls q HQ.out A1 A2 c1 c2 w5 (HR1d.out.below b5) (HR2d.out.below b5))
  have HS5 := Lib.hid (belowThen HS4.out b5)
  clear b5
  go_wp2_with fail
  refine HLI.out.mono ?_
  rintro e w6 ⟨rfl, qd, rfl⟩
  have HS6 := Lib.hid (belowThen HS5.out (belowN w5 qd))
  go_wp2
  go_ret
  exact ⟨rfl, belowThen HBW.out HS6.out⟩
end Go.Proofs.YtkanamdfjegcbaaDoor
