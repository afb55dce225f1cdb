/-
  The law LivenessAfter returns true for every function and every number, where the tables are laid, given what the specification's live gives where all registers count at the exit.
-/
import Derived.Test.YtkanamdfjegcbaaDoorCLfRd
namespace Go.Proofs.YtkanamdfjegcbaaDoor
open Go Go.RowKit Go.Shelf

set_option maxRecDepth 100000 in
set_option maxHeartbeats 8000000 in
theorem lawAfter (nm : ByteArray) (C : List I8) (HLT : cfE C = 0 → LiveT C) (n : Nat) (hn : C.length = n) (x : Int) (A : Option Addr) (c : Nat) (w : World) (h : CdW w A c C) :
    Calls Tryd.prog 4 #[fnV nm A n c, .int .i64 x] w (LawOkL w) := by
  obtain ⟨W, hW⟩ : ∃ W, w.alloc (.cells #[.string nm, .slice A n c] 24) = W := ⟨_, rfl⟩
  have hbW : Below w.heap.size w W := by rw [← hW]; exact belowAlloc w _
  have hB : Blk W w.heap.size 24 #[.string nm, .slice A n c] := by rw [← hW]; exact Blk.new w _ _
  have k0 : W.cell? ⟨w.heap.size, 0, none⟩ = some (.string nm) := hB.cell 0
  have k1 : W.cell? ⟨w.heap.size, 1, none⟩ = some (.slice A n c) := hB.cell 1
  have HK := Lib.hid (fun X (hX : Below W.heap.size W X) => (⟨(hB.below' hX).cell 0, (hB.below' hX).cell 1⟩ : X.cell? ⟨w.heap.size, 0, none⟩ = some (.string nm) ∧ X.cell? ⟨w.heap.size, 1, none⟩ = some (.slice A n c)))
  have hcd := h.below hbW
  have HEX := Lib.hid (fun X (hX : Below W.heap.size W X) => awakeL X (hcd.ld.below hX))
  have HB1 := Lib.hid (iAfterC nm C n hn x A c W hcd)
  have HB2 := Lib.hid (fun X (hX : Below W.heap.size W X) => rAfter13 nm C n hn x A c X (hcd.below hX))
  have HP1 := Lib.hid (fun X (hX : Below W.heap.size W X) => iDead nm C n hn A c X (hcd.below hX))
  have HP2 := Lib.hid (fun X (hX : Below W.heap.size W X) => rDead13 nm C HLT n hn A c X (hcd.below hX))
  have HW := Lib.hid hW
  have HBW := Lib.hid hbW
  have hle := h.rd.le
  have hmx := h.rd.max
  rw [hn] at hle
  unfold maxLen at hmx
  generalize cfE C = E at HP1 HP2
  generalize nxE C x = E2 at HB1 HB2
  unfold GivesE9 at HB1 HB2 HP1 HP2
  obtain ⟨ls, hls⟩ : ∃ ls, afR C x = ls := ⟨_, rfl⟩
  rw [hls] at HB1 HB2
  obtain ⟨q, hq⟩ : ∃ q, ls.length = q := ⟨_, rfl⟩
  rw [hq] at HB1 HB2
  have HQ := Lib.hid hq
  obtain ⟨lt, hlt⟩ : ∃ lt, deR C = lt := ⟨_, rfl⟩
  rw [hlt] at HP1 HP2
  obtain ⟨qt, hqt⟩ : ∃ qt, lt.length = qt := ⟨_, rfl⟩
  rw [hqt] at HP1 HP2
  have HQT := Lib.hid hqt
  clear HLT hlt hqt
  unfold fnV at HB1 HB2 HP1 HP2 ⊢
  clear h hB hW hbW hcd hn hls hq
  by_cases hbig : 100 < n
  · have d1 : (100 : Int) < (n : Int) := by omega
    have HX := Lib.hid (HEX.out W (Below.refl _ _))
    go_enter Tryd.func4, Tryd.ntmps4
    go_wp2_with fail
    rw [HW.out]
    refine HX.out.mono ?_
    rintro e w1 ⟨rfl, b1⟩
    go_wp2
    go_ret
    exact ⟨rfl, belowThen HBW.out b1⟩
  have d1 : ¬ ((100 : Int) < (n : Int)) := by omega
  clear hbig
  go_enter Tryd.func4, Tryd.ntmps4
  go_wp2_with fail
  rw [HW.out]
  refine HB1.out.mono ?_
  rintro e w1 ⟨A1, c1, rfl, r1, b1⟩
  have HR1 := Lib.hid r1
  have HS1 := Lib.hid b1
  have HC2 := Lib.hid (HB2.out w1 b1)
  clear k0 k1 r1
  obtain ⟨k0, k1⟩ := HK.out w1 b1
  clear b1 HB1 HB2
  go_wp2_with fail
  refine HC2.out.mono ?_
  rintro e w2 ⟨A2, c2, rfl, r2, b2⟩
  have HR2 := Lib.hid r2
  have HR1b := Lib.hid (Rd.below HR1.out b2)
  have hS2 := belowThen HS1.out b2
  have HS2 := Lib.hid hS2
  have HC3 := Lib.hid (HP1.out w2 hS2)
  clear k0 k1 r2 b2 HR1
  obtain ⟨k0, k1⟩ := HK.out w2 hS2
  clear hS2
  go_wp2_with fail
  refine HC3.out.mono ?_
  rintro e w3 ⟨A3, c3, rfl, r3, b3⟩
  have HR3 := Lib.hid r3
  have HR1c := Lib.hid (Rd.below HR1b.out b3)
  have HR2c := Lib.hid (Rd.below HR2.out b3)
  have hS3 := belowThen HS2.out b3
  have HS3 := Lib.hid hS3
  have HC4 := Lib.hid (HP2.out w3 hS3)
  clear k0 k1 b3 HR1b HR2 r3
  obtain ⟨k0, k1⟩ := HK.out w3 hS3
  clear hS3
  go_wp2_with fail
  refine HC4.out.mono ?_
  rintro e w4 ⟨A4, c4, rfl, r4, b4⟩
  have HR4 := Lib.hid r4
  have HR3d := Lib.hid (Rd.below HR3.out b4)
  have HR1d := Lib.hid (Rd.below HR1c.out b4)
  have HR2d := Lib.hid (Rd.below HR2c.out b4)
  have HS4 := Lib.hid (belowThen HS3.out b4)
  have HX := Lib.hid (HEX.out w4 HS4.out)
  clear k0 k1 b4 HR1c HR2c r4 HR3
  go_wp2_with fail
  refine HX.out.mono ?_
  rintro e w5 ⟨rfl, b5⟩
  have HLI := rInts ls ls true (eqB_yes rfl) A1 A2 c1 c2 w5 (Rd.below HR1d.out b5) (Rd.below HR2d.out b5)
  rw [HQ.out] at HLI
  have HLI := Lib.hid HLI
  have HS5 := Lib.hid (belowThen HS4.out b5)
  have HR3e := Lib.hid (Rd.below HR3d.out b5)
  have HR4e := Lib.hid (Rd.below HR4.out b5)
  clear b5
  go_wp2_with fail
  refine HLI.out.mono ?_
  rintro e w6 ⟨rfl, qd, rfl⟩
  obtain ⟨wd, hwd⟩ : ∃ wd, w5.drewN qd = wd := ⟨_, rfl⟩
  have bd : Below w5.heap.size w5 wd := by rw [← hwd]; exact belowN w5 qd
  rw [hwd]
  have HLJ := rInts lt lt true (eqB_yes rfl) A3 A4 c3 c4 wd (Rd.below HR3e.out bd) (Rd.below HR4e.out bd)
  rw [HQT.out] at HLJ
  have HLJ := Lib.hid HLJ
  have HS6 := Lib.hid (belowThen HS5.out bd)
  clear bd hwd
  go_wp2_with fail
  refine HLJ.out.mono ?_
  rintro e w7 ⟨rfl, qe, rfl⟩
  have HS7 := Lib.hid (belowThen HS6.out (belowN wd qe))
  go_wp2
  go_ret
  exact ⟨rfl, belowThen HBW.out HS7.out⟩
end Go.Proofs.YtkanamdfjegcbaaDoor
