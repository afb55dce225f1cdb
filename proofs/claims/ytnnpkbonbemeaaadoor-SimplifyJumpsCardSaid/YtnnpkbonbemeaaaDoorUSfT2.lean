/-
  The law SimplifyJumps returns true for every function, where the tables are laid.
-/
import Derived.Test.YtnnpkbonbemeaaaDoorUSe
import Derived.Test.YtnnpkbonbemeaaaDoorUSfY
namespace Go.Proofs.YtnnpkbonbemeaaaDoor
open Go Go.RowKit

set_option maxRecDepth 100000 in
set_option maxHeartbeats 8000000 in
theorem lawJumps (nm : ByteArray) (C : List I8) (n : Nat) (hn : C.length = n) (A : Option Addr) (c : Nat) (w : World) (h : CdW w A c C) :
    Calls Tryd.prog 5 #[fnV nm A n c] w (LawOkS w) := by
  obtain ⟨W, hW⟩ : ∃ W, w.alloc (.cells #[.string nm, .slice A n c] 42) = W := ⟨_, rfl⟩
  have hbW : Below w.heap.size w W := by rw [← hW]; exact belowAlloc w _
  have hB : Blk W w.heap.size 42 #[.string nm, .slice A n c] := by rw [← hW]; exact Blk.new w _ _
  have k0 : W.cell? ⟨w.heap.size, 0, none⟩ = some (.string nm) := hB.cell 0
  have k1 : W.cell? ⟨w.heap.size, 1, none⟩ = some (.slice A n c) := hB.cell 1
  have hcd := h.below hbW
  have HEX := Lib.hid (fun X (hX : Below W.heap.size W X) => exHoldsS X (hcd.ld.below hX))
  have HT1 := Lib.hid (iThreadF nm C n hn A c W hcd)
  have HT2 := Lib.hid (fun X (hX : Below W.heap.size W X) => rThread15 nm C n hn A c X (hcd.below hX))
  have HP1 := Lib.hid (fun X (hX : Below W.heap.size W X) => iPruneF nm C n hn A c X (hcd.below hX))
  have HP2 := Lib.hid (fun X (hX : Below W.heap.size W X) => rPrune15 nm C n hn A c X (hcd.below hX))
  have HK := Lib.hid (fun X (hX : Below W.heap.size W X) => (⟨(hB.below' hX).cell 0, (hB.below' hX).cell 1⟩ : X.cell? ⟨w.heap.size, 0, none⟩ = some (.string nm) ∧ X.cell? ⟨w.heap.size, 1, none⟩ = some (.slice A n c)))
  have HW := Lib.hid hW
  have HBW := Lib.hid hbW
  have hle := h.rd.le
  have hmx := h.rd.max
  rw [hn] at hle
  unfold maxLen at hmx
  unfold GivesFn fnV at HT1 HT2 HP1 HP2
  unfold fnV
  by_cases hbig : 30 < n
  · have d1 : decide ((30 : Int) < (n : Int)) = true := decide_eq_true (by omega)
    have HX := Lib.hid (HEX.out W (Below.refl _ _))
    clear h hB hW hbW hcd hn
    go_enter Tryd.func5, Tryd.ntmps5
    go_wp2_with fail
    rw [HW.out]
    go_wp2_with fail
    all_goals first
      | (exfalso; omega)
      | skip
    refine HX.out.mono ?_
    rintro e w2 ⟨rfl, b2⟩
    go_wp2
    go_ret
    exact ⟨rfl, belowThen HBW.out b2⟩
  have d1 : decide ((30 : Int) < (n : Int)) = false := decide_eq_false (by omega)
  obtain ⟨N, hN⟩ : ∃ N, nmRf C nm = N := ⟨_, rfl⟩
  obtain ⟨T, hT⟩ : ∃ T, cdR C (thL C) = T := ⟨_, rfl⟩
  obtain ⟨P, hP⟩ : ∃ P, cdR C (prL C) = P := ⟨_, rfl⟩
  obtain ⟨er, her⟩ : ∃ er, cfE C = er := ⟨_, rfl⟩
  obtain ⟨m, hm⟩ : ∃ m, T.length = m := ⟨_, rfl⟩
  obtain ⟨q, hq⟩ : ∃ q, P.length = q := ⟨_, rfl⟩
  rw [hN, hT, her, hm] at HT1 HT2
  rw [hN, hP, her, hq] at HP1 HP2
  have HST := Lib.hid (fun A1 c1 A2 c2 X (h1 : RdE 8 EI X A1 c1 T) (h2 : RdE 8 EI X A2 c2 T) => rSameC N T T m m hm hm A1 A2 c1 c2 X h1 h2)
  rw [show decide (T = T) = true from decide_eq_true rfl] at HST
  have HSP := Lib.hid (fun A1 c1 A2 c2 X (h1 : RdE 8 EI X A1 c1 P) (h2 : RdE 8 EI X A2 c2 P) => rSameC N P P q q hq hq A1 A2 c1 c2 X h1 h2)
  rw [show decide (P = P) = true from decide_eq_true rfl] at HSP
  unfold fnV at HST HSP
  have hee : (er == er) = true := by simp
  clear h hB hW hbW hcd hn hN hT hP her hm hq
  go_enter Tryd.func5, Tryd.ntmps5
  go_wp2_with fail
  rw [HW.out]
  go_wp2_with fail
  all_goals first
    | (exfalso; omega)
    | skip
  refine HT1.out.mono ?_
  rintro e w1 ⟨A1, c1, rfl, r1, b1⟩
  obtain ⟨w2, hw2⟩ : ∃ w2, w1.alloc (.cells #[.string N, .slice A1 m c1] 42) = w2 := ⟨_, rfl⟩
  have b12 : Below w1.heap.size w1 w2 := by rw [← hw2]; exact belowAlloc _ _
  have b2 := belowThen b1 b12
  have HBA := Lib.hid (show Blk w2 w1.heap.size 42 #[.string N, .slice A1 m c1] by rw [← hw2]; exact Blk.new _ _ _)
  have HR1 := Lib.hid (r1.below stabI b12)
  have HT22 := Lib.hid (HT2.out w2 b2)
  have HB2 := Lib.hid b2
  have HW2 := Lib.hid hw2
  clear k0 k1 b1 hw2 r1 b12
  obtain ⟨k0, k1⟩ := HK.out w2 b2
  clear b2
  go_upto_region 4 with fail
  rw [HW2.out]
  go_wp2_with fail
  refine HT22.out.mono ?_
  rintro e w3 ⟨A3, c3, rfl, r3, b3⟩
  obtain ⟨w4, hw4⟩ : ∃ w4, w3.alloc (.cells #[.string N, .slice A3 m c3] 42) = w4 := ⟨_, rfl⟩
  have b34 : Below w3.heap.size w3 w4 := by rw [← hw4]; exact belowAlloc _ _
  have b24 := belowThen b3 b34
  have HBB := Lib.hid (show Blk w4 w3.heap.size 42 #[.string N, .slice A3 m c3] by rw [← hw4]; exact Blk.new _ _ _)
  have HR3 := Lib.hid (r3.below stabI b34)
  have hB4 := belowThen HB2.out b24
  have HB4 := Lib.hid hB4
  have HB24 := Lib.hid b24
  have HP5 := Lib.hid (HP1.out w4 hB4)
  have HW4 := Lib.hid hw4
  clear b3 hw4 k0 k1 r3 b34 b24
  obtain ⟨k0, k1⟩ := HK.out w4 hB4
  clear hB4
  go_upto_region 5 with fail
  rw [HW4.out]
  go_wp2_with fail
  refine HP5.out.mono ?_
  rintro e w5 ⟨A5, c5, rfl, r5, b5⟩
  obtain ⟨w6, hw6⟩ : ∃ w6, w5.alloc (.cells #[.string N, .slice A5 q c5] 42) = w6 := ⟨_, rfl⟩
  have b56 : Below w5.heap.size w5 w6 := by rw [← hw6]; exact belowAlloc _ _
  have b46 := belowThen b5 b56
  have HBC := Lib.hid (show Blk w6 w5.heap.size 42 #[.string N, .slice A5 q c5] by rw [← hw6]; exact Blk.new _ _ _)
  have HR5 := Lib.hid (r5.below stabI b56)
  have hB6 := belowThen HB4.out b46
  have HB6 := Lib.hid hB6
  have HB46 := Lib.hid b46
  have HP7 := Lib.hid (HP2.out w6 hB6)
  have HW6 := Lib.hid hw6
  clear b5 hw6 r5 b56 b46 k0 k1
  obtain ⟨k0, k1⟩ := HK.out w6 hB6
  clear hB6
  go_upto_region 6 with fail
  rw [HW6.out]
  go_wp2_with fail
  refine HP7.out.mono ?_
  rintro e w7 ⟨A7, c7, rfl, r7, b7⟩
  obtain ⟨w8, hw8⟩ : ∃ w8, w7.alloc (.cells #[.string N, .slice A7 q c7] 42) = w8 := ⟨_, rfl⟩
  have b78 : Below w7.heap.size w7 w8 := by rw [← hw8]; exact belowAlloc _ _
  have b68 := belowThen b7 b78
  have hBD : Blk w8 w7.heap.size 42 #[.string N, .slice A7 q c7] := by rw [← hw8]; exact Blk.new _ _ _
  have HR7 := Lib.hid (r7.below stabI b78)
  have HB8 := Lib.hid (belowThen HB6.out b68)
  have b48 := belowThen HB46.out b68
  have b28 := belowThen HB24.out b48
  have HS9 := Lib.hid (HST.out A1 c1 A3 c3 w8 (HR1.out.below stabI b28) (HR3.out.below stabI b48))
  have HS10 := Lib.hid (fun X (hX : Below w8.heap.size w8 X) => HSP.out A5 c5 A7 c7 X ((HR5.out.below stabI b68).below stabI hX) (HR7.out.below stabI hX))
  have HKB := Lib.hid (fun X (hX : Below w8.heap.size w8 X) => (⟨((HBC.out.below' b68).below' hX).cell 0, ((HBC.out.below' b68).below' hX).cell 1, (hBD.below' hX).cell 0, (hBD.below' hX).cell 1⟩ :
    X.cell? ⟨w5.heap.size, 0, none⟩ = some (.string N) ∧ X.cell? ⟨w5.heap.size, 1, none⟩ = some (.slice A5 q c5) ∧ X.cell? ⟨w7.heap.size, 0, none⟩ = some (.string N) ∧ X.cell? ⟨w7.heap.size, 1, none⟩ = some (.slice A7 q c7)))
  have HW8 := Lib.hid hw8
  have q0 := (HBA.out.below' b28).cell 0
  have q1 := (HBA.out.below' b28).cell 1
  have q2 := (HBB.out.below' b48).cell 0
  have q3 := (HBB.out.below' b48).cell 1
  clear b7 hw8 r7 b78 b68 b48 b28 hBD k0 k1
  go_upto_region 7 with fail
  rw [HW8.out]
  go_wp2_with fail
  refine HS9.out.mono ?_
  rintro e w9 ⟨rfl, b9⟩
  obtain ⟨p0, p1, p2, p3⟩ := HKB.out w9 b9
  have HS11 := Lib.hid (HS10.out w9 b9)
  have HB9 := Lib.hid (belowThen HB8.out b9)
  clear b9 q0 q1 q2 q3
  go_wp2_with fail
  refine HS11.out.mono ?_
  rintro e w10 ⟨rfl, b10⟩
  have HB10 := Lib.hid (belowThen HB9.out b10)
  have HX := Lib.hid (HEX.out w10 HB10.out)
  clear b10 p0 p1 p2 p3
  go_wp2_with fail
  refine HX.out.mono ?_
  rintro e w11 ⟨rfl, b11⟩
  go_wp2
  go_ret
  exact ⟨rfl, belowThen HBW.out (belowThen HB10.out b11)⟩
end Go.Proofs.YtnnpkbonbemeaaaDoor
