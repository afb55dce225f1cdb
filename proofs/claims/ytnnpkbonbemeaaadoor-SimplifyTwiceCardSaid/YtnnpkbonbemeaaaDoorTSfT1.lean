/-
  The law SimplifyTwice returns true for every function, where the tables are laid.
-/
import Derived.Test.YtnnpkbonbemeaaaDoorTSe
namespace Go.Proofs.YtnnpkbonbemeaaaDoor
open Go Go.RowKit

set_option maxRecDepth 100000 in
set_option maxHeartbeats 8000000 in
theorem lawTwice (nm : ByteArray) (C : List I8) (n : Nat) (hn : C.length = n) (A : Option Addr) (c : Nat) (w : World) (h : CdW w A c C) :
    Calls Tryd.prog 7 #[fnV nm A n c] w (LawOkS w) := by
  obtain ⟨W, hW⟩ : ∃ W, w.alloc (.cells #[.string nm, .slice A n c] 42) = W := ⟨_, rfl⟩
  have hbW : Below w.heap.size w W := by rw [← hW]; exact belowAlloc w _
  have hB : Blk W w.heap.size 42 #[.string nm, .slice A n c] := by rw [← hW]; exact Blk.new w _ _
  have k0 : W.cell? ⟨w.heap.size, 0, none⟩ = some (.string nm) := hB.cell 0
  have k1 : W.cell? ⟨w.heap.size, 1, none⟩ = some (.slice A n c) := hB.cell 1
  have hcd := h.below hbW
  have HCD := Lib.hid (fun X (hX : Below W.heap.size W X) => hcd.below hX)
  have HEX := Lib.hid (fun X (hX : Below W.heap.size W X) => exHoldsS X (hcd.ld.below hX))
  have HTH := Lib.hid (iThreadF nm C n hn A c W hcd)
  have HPR := Lib.hid (fun X (hX : Below W.heap.size W X) => iPruneF nm C n hn A c X (hcd.below hX))
  have HK := Lib.hid (fun X (hX : Below W.heap.size W X) => (⟨(hB.below' hX).cell 0, (hB.below' hX).cell 1⟩ : X.cell? ⟨w.heap.size, 0, none⟩ = some (.string nm) ∧ X.cell? ⟨w.heap.size, 1, none⟩ = some (.slice A n c)))
  have HW := Lib.hid hW
  have HBW := Lib.hid hbW
  have HN := Lib.hid hn
  have hwf := h.wf
  have hle := h.rd.le
  have hmx := h.rd.max
  rw [hn] at hle
  unfold maxLen at hmx
  unfold GivesFn fnV at HTH HPR
  unfold fnV
  by_cases hbig : 30 < n
  · have d1 : decide ((30 : Int) < (n : Int)) = true := decide_eq_true (by omega)
    have HX := Lib.hid (HEX.out W (Below.refl _ _))
    clear h hB hW hbW hcd hn hwf
    go_enter Tryd.func7, Tryd.ntmps7
    go_wp2_with fail
    rw [HW.out]
    go_wp2_with fail
    all_goals first
      | (exfalso; omega)
      | skip
    refine HX.out.mono ?_
    rintro e w2 ⟨rfl, b2⟩
    go_wp2
    go_ret
    exact ⟨rfl, belowThen HBW.out b2⟩
  have d1 : decide ((30 : Int) < (n : Int)) = false := decide_eq_false (by omega)
  by_cases hc : cfE C = 0
  rotate_left
  · rw [nmR1 hc, cdR1 hc] at HTH HPR
    have hne : (cfE C != 0) = true := by simpa using hc
    have hee : (cfE C == cfE C) = true := by simp
    simp only [List.length_nil] at HTH HPR
    generalize cfE C = er at HTH HPR hne hee
    clear h hB hW hbW hcd hn hwf hc
    go_enter Tryd.func7, Tryd.ntmps7
    go_wp2_with fail
    rw [HW.out]
    go_wp2_with fail
    all_goals first
      | (exfalso; omega)
      | skip
    refine HTH.out.mono ?_
    rintro e w1 ⟨A1, c1, rfl, -, b1⟩
    obtain ⟨w2, hw2⟩ : ∃ w2, w1.alloc (.cells #[.string ⟨#[]⟩, .slice A1 0 c1] 42) = w2 := ⟨_, rfl⟩
    have b2 := belowThen b1 (show Below w1.heap.size w1 w2 by rw [← hw2]; exact belowAlloc _ _)
    have HP2 := Lib.hid (HPR.out w2 b2)
    have HB2 := Lib.hid b2
    have HW2 := Lib.hid hw2
    clear k0 k1 b1 hw2
    obtain ⟨k0, k1⟩ := HK.out w2 b2
    clear b2
    go_upto_region 4 with fail
    rw [HW2.out]
    go_wp2_with fail
    refine HP2.out.mono ?_
    rintro e w3 ⟨A3, c3, rfl, -, b3⟩
    obtain ⟨w4, hw4⟩ : ∃ w4, w3.alloc (.cells #[.string ⟨#[]⟩, .slice A3 0 c3] 42) = w4 := ⟨_, rfl⟩
    have HB4 := Lib.hid (belowThen HB2.out (belowThen b3 (show Below w3.heap.size w3 w4 by rw [← hw4]; exact belowAlloc _ _)))
    have HX := Lib.hid (HEX.out w4 HB4.out)
    have HW4 := Lib.hid hw4
    clear b3 hw4 k0 k1
    go_upto_region 5 with fail
    rw [HW4.out]
    go_wp2_with fail
    refine HX.out.mono ?_
    rintro e w5 ⟨rfl, b5⟩
    go_wp2
    go_ret
    exact ⟨rfl, belowThen HBW.out (belowThen HB4.out b5)⟩
  · have hok := cfOk hc
    rw [nmR0 hc, cdR0 hc, hc] at HTH HPR
    have hokT := thOk hok
    have hokP := prOk hok
    have hcT := cfMk hokT
    have hcP := cfMk hokP
    have hlT : (thL C).length = n := by rw [thLen]; exact hn
    obtain ⟨m, hlP⟩ : ∃ m, (prL C).length = m := ⟨_, rfl⟩
    rw [hlT] at HTH
    rw [hlP] at HPR
    have HTT := Lib.hid (fun A1 c1 X (hX : CdW X A1 c1 (thL C)) => iThreadF nm (thL C) n hlT A1 c1 X hX)
    rw [nmR0 hcT, cdR0 hcT, hcT, thTwice] at HTT
    have HPP := Lib.hid (fun A1 c1 X (hX : CdW X A1 c1 (prL C)) => iPruneF nm (prL C) m hlP A1 c1 X hX)
    rw [nmR0 hcP, cdR0 hcP, hcP, prTwice hok] at HPP
    unfold GivesFn fnV at HTT HPP
    rw [hlT] at HTT
    rw [hlP] at HPP
    have HST := Lib.hid (fun A1 c1 A2 c2 X (h1 : RdE 8 EI X A1 c1 (thL C)) (h2 : RdE 8 EI X A2 c2 (thL C)) => rSameC nm (thL C) (thL C) n n hlT hlT A1 A2 c1 c2 X h1 h2)
    rw [show decide (thL C = thL C) = true from decide_eq_true rfl] at HST
    have HSP := Lib.hid (fun A1 c1 A2 c2 X (h1 : RdE 8 EI X A1 c1 (prL C)) (h2 : RdE 8 EI X A2 c2 (prL C)) => rSameC nm (prL C) (prL C) m m hlP hlP A1 A2 c1 c2 X h1 h2)
    rw [show decide (prL C = prL C) = true from decide_eq_true rfl] at HSP
    unfold fnV at HST HSP
    have HWT := Lib.hid (thWf hok hwf)
    have HWP := Lib.hid (prWf hok hwf)
    have HLD := Lib.hid (fun X (hX : Below W.heap.size W X) => hcd.ld.below hX)
    generalize thL C = T at *
    generalize prL C = P at *
    clear h hB hW hbW hcd hn hwf hc hok hokT hokP hcT hcP hlT hlP
    go_enter Tryd.func7, Tryd.ntmps7
    go_wp2_with fail
    rw [HW.out]
    go_wp2_with fail
    all_goals first
      | (exfalso; omega)
      | skip
    refine HTH.out.mono ?_
    rintro e w1 ⟨A1, c1, rfl, r1, b1⟩
    obtain ⟨w2, hw2⟩ : ∃ w2, w1.alloc (.cells #[.string nm, .slice A1 n c1] 42) = w2 := ⟨_, rfl⟩
    have b12 : Below w1.heap.size w1 w2 := by rw [← hw2]; exact belowAlloc _ _
    have b2 := belowThen b1 b12
    have HBA := Lib.hid (show Blk w2 w1.heap.size 42 #[.string nm, .slice A1 n c1] by rw [← hw2]; exact Blk.new _ _ _)
    have HR1 := Lib.hid (r1.below stabI b12)
    have HP2 := Lib.hid (HPR.out w2 b2)
    have HB2 := Lib.hid b2
    have HW2 := Lib.hid hw2
    clear k0 k1 b1 hw2 r1 b12
    obtain ⟨k0, k1⟩ := HK.out w2 b2
    clear b2
    go_upto_region 4 with fail
    rw [HW2.out]
    go_wp2_with fail
    refine HP2.out.mono ?_
    rintro e w3 ⟨A3, c3, rfl, r3, b3⟩
    obtain ⟨w4, hw4⟩ : ∃ w4, w3.alloc (.cells #[.string nm, .slice A3 m c3] 42) = w4 := ⟨_, rfl⟩
    have b34 : Below w3.heap.size w3 w4 := by rw [← hw4]; exact belowAlloc _ _
    have b24 := belowThen b3 b34
    have HBB := Lib.hid (show Blk w4 w3.heap.size 42 #[.string nm, .slice A3 m c3] by rw [← hw4]; exact Blk.new _ _ _)
    have HR3 := Lib.hid (r3.below stabI b34)
    have HB4 := Lib.hid (belowThen HB2.out b24)
    have HBA4 := Lib.hid (HBA.out.below' b24)
    have HR14 := Lib.hid (HR1.out.below stabI b24)
    have HT5 := Lib.hid (HTT.out A1 c1 w4 ⟨HR14.out, HWT.out, HLD.out w4 HB4.out⟩)
    have HW4 := Lib.hid hw4
    have p0 := HBA4.out.cell 0
    have p1 := HBA4.out.cell 1
    clear b3 hw4 k0 k1 r3 b34 b24
    go_upto_region 5 with fail
    rw [HW4.out]
    go_wp2_with fail
    refine HT5.out.mono ?_
    rintro e w5 ⟨A5, c5, rfl, r5, b5⟩
    obtain ⟨w6, hw6⟩ : ∃ w6, w5.alloc (.cells #[.string nm, .slice A5 n c5] 42) = w6 := ⟨_, rfl⟩
    have b56 : Below w5.heap.size w5 w6 := by rw [← hw6]; exact belowAlloc _ _
    have b46 := belowThen b5 b56
    have HBC := Lib.hid (show Blk w6 w5.heap.size 42 #[.string nm, .slice A5 n c5] by rw [← hw6]; exact Blk.new _ _ _)
    have HR5 := Lib.hid (r5.below stabI b56)
    have HB6 := Lib.hid (belowThen HB4.out b46)
    have HBB6 := Lib.hid (HBB.out.below' b46)
    have HBA6 := Lib.hid (HBA4.out.below' b46)
    have HR16 := Lib.hid (HR14.out.below stabI b46)
    have HR36 := Lib.hid (HR3.out.below stabI b46)
    have HP7 := Lib.hid (HPP.out A3 c3 w6 ⟨HR36.out, HWP.out, HLD.out w6 HB6.out⟩)
    have HW6 := Lib.hid hw6
    clear b5 hw6 r5 b56 b46 p0 p1
    have p0 := HBB6.out.cell 0
    have p1 := HBB6.out.cell 1
    go_upto_region 8 with fail
    rw [HW6.out]
    go_wp2_with fail
    refine HP7.out.mono ?_
    rintro e w7 ⟨A7, c7, rfl, r7, b7⟩
    obtain ⟨w8, hw8⟩ : ∃ w8, w7.alloc (.cells #[.string nm, .slice A7 m c7] 42) = w8 := ⟨_, rfl⟩
    have b78 : Below w7.heap.size w7 w8 := by rw [← hw8]; exact belowAlloc _ _
    have b68 := belowThen b7 b78
    have hBD : Blk w8 w7.heap.size 42 #[.string nm, .slice A7 m c7] := by rw [← hw8]; exact Blk.new _ _ _
    have HR7 := Lib.hid (r7.below stabI b78)
    have HB8 := Lib.hid (belowThen HB6.out b68)
    have HS9 := Lib.hid (HST.out A1 c1 A5 c5 w8 (HR16.out.below stabI b68) (HR5.out.below stabI b68))
    have HS10 := Lib.hid (fun X (hX : Below w8.heap.size w8 X) => HSP.out A3 c3 A7 c7 X ((HR36.out.below stabI b68).below stabI hX) (HR7.out.below stabI hX))
    have HKB := Lib.hid (fun X (hX : Below w8.heap.size w8 X) => (⟨((HBB6.out.below' b68).below' hX).cell 0, ((HBB6.out.below' b68).below' hX).cell 1, (hBD.below' hX).cell 0, (hBD.below' hX).cell 1⟩ :
      X.cell? ⟨w3.heap.size, 0, none⟩ = some (.string nm) ∧ X.cell? ⟨w3.heap.size, 1, none⟩ = some (.slice A3 m c3) ∧ X.cell? ⟨w7.heap.size, 0, none⟩ = some (.string nm) ∧ X.cell? ⟨w7.heap.size, 1, none⟩ = some (.slice A7 m c7)))
    have HW8 := Lib.hid hw8
    have q0 := (HBA6.out.below' b68).cell 0
    have q1 := (HBA6.out.below' b68).cell 1
    have q2 := (HBC.out.below' b68).cell 0
    have q3 := (HBC.out.below' b68).cell 1
    clear b7 hw8 r7 b78 b68 p0 p1 hBD
    go_upto_region 9 with fail
    rw [HW8.out]
    go_wp2_with fail
    refine HS9.out.mono ?_
    rintro e w9 ⟨rfl, b9⟩
    obtain ⟨p0, p1, p2, p3⟩ := HKB.out w9 b9
    have HS11 := Lib.hid (HS10.out w9 b9)
    have HB9 := Lib.hid (belowThen HB8.out b9)
    clear b9 q0 q1 q2 q3
    go_wp2_with fail
    refine HS11.out.mono ?_
    rintro e w10 ⟨rfl, b10⟩
    have HB10 := Lib.hid (belowThen HB9.out b10)
    have HX := Lib.hid (HEX.out w10 HB10.out)
    clear b10 p0 p1 p2 p3
    go_wp2_with fail
    refine HX.out.mono ?_
    rintro e w11 ⟨rfl, b11⟩
    go_wp2
    go_ret
    exact ⟨rfl, belowThen HBW.out (belowThen HB10.out b11)⟩
end Go.Proofs.YtnnpkbonbemeaaaDoor
