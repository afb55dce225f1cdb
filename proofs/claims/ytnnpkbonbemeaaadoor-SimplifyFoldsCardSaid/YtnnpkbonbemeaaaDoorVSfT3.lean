/-
  The law SimplifyFolds returns true for every function, where the tables are laid.
-/
import Derived.Test.YtnnpkbonbemeaaaDoorVSfS
namespace Go.Proofs.YtnnpkbonbemeaaaDoor
open Go Go.RowKit

set_option maxRecDepth 100000 in
set_option maxHeartbeats 8000000 in
theorem lawFolds (nm : ByteArray) (C : List I8) (n : Nat) (hn : C.length = n) (A : Option Addr) (c : Nat) (w : World) (h : CdW w A c C) :
    Calls Tryd.prog 4 #[fnV nm A n c] w (LawOkS w) := by
  obtain ⟨W, hW⟩ : ∃ W, w.alloc (.cells #[.string nm, .slice A n c] 42) = W := ⟨_, rfl⟩
  have hbW : Below w.heap.size w W := by rw [← hW]; exact belowAlloc w _
  have hB : Blk W w.heap.size 42 #[.string nm, .slice A n c] := by rw [← hW]; exact Blk.new w _ _
  have k0 : W.cell? ⟨w.heap.size, 0, none⟩ = some (.string nm) := hB.cell 0
  have k1 : W.cell? ⟨w.heap.size, 1, none⟩ = some (.slice A n c) := hB.cell 1
  have hcd := h.below hbW
  have HEX := Lib.hid (fun X (hX : Below W.heap.size W X) => exHoldsS X (hcd.ld.below hX))
  have HT1 := Lib.hid (iFoldF nm C n hn A c W hcd)
  have HT2 := Lib.hid (fun X (hX : Below W.heap.size W X) => rFold15 nm C n hn A c X (hcd.below hX))
  have HK := Lib.hid (fun X (hX : Below W.heap.size W X) => (⟨(hB.below' hX).cell 0, (hB.below' hX).cell 1⟩ : X.cell? ⟨w.heap.size, 0, none⟩ = some (.string nm) ∧ X.cell? ⟨w.heap.size, 1, none⟩ = some (.slice A n c)))
  have HW := Lib.hid hW
  have HBW := Lib.hid hbW
  have hle := h.rd.le
  have hmx := h.rd.max
  rw [hn] at hle
  unfold maxLen at hmx
  unfold GivesFn fnV at HT1 HT2
  unfold fnV
  by_cases hbig : 30 < n
  · have d1 : decide ((30 : Int) < (n : Int)) = true := decide_eq_true (by omega)
    have HX := Lib.hid (HEX.out W (Below.refl _ _))
    clear h hB hW hbW hcd hn
    go_enter Tryd.func4, Tryd.ntmps4
    go_wp2_with fail
    rw [HW.out]
    go_wp2_with fail
    all_goals first
      | (exfalso; omega)
      | skip
    refine HX.out.mono ?_
    rintro e w2 ⟨rfl, b2⟩
    go_wp2
    go_ret
    exact ⟨rfl, belowThen HBW.out b2⟩
  have d1 : decide ((30 : Int) < (n : Int)) = false := decide_eq_false (by omega)
  obtain ⟨N, hN⟩ : ∃ N, nmRf C nm = N := ⟨_, rfl⟩
  obtain ⟨T, hT⟩ : ∃ T, cdR C (fdL C) = T := ⟨_, rfl⟩
  obtain ⟨er, her⟩ : ∃ er, cfE C = er := ⟨_, rfl⟩
  obtain ⟨m, hm⟩ : ∃ m, T.length = m := ⟨_, rfl⟩
  rw [hN, hT, her, hm] at HT1 HT2
  have HST := Lib.hid (fun A1 c1 A2 c2 X (h1 : RdE 8 EI X A1 c1 T) (h2 : RdE 8 EI X A2 c2 T) => rSameC N T T m m hm hm A1 A2 c1 c2 X h1 h2)
  rw [show decide (T = T) = true from decide_eq_true rfl] at HST
  unfold fnV at HST
  have hee : (er == er) = true := by simp
  clear h hB hW hbW hcd hn hN hT her hm
  go_enter Tryd.func4, Tryd.ntmps4
  go_wp2_with fail
  rw [HW.out]
  go_wp2_with fail
  all_goals first
    | (exfalso; omega)
    | skip
  refine HT1.out.mono ?_
  rintro e w1 ⟨A1, c1, rfl, r1, b1⟩
  obtain ⟨w2, hw2⟩ : ∃ w2, w1.alloc (.cells #[.string N, .slice A1 m c1] 42) = w2 := ⟨_, rfl⟩
  have b12 : Below w1.heap.size w1 w2 := by rw [← hw2]; exact belowAlloc _ _
  have b2 := belowThen b1 b12
  have HBA := Lib.hid (show Blk w2 w1.heap.size 42 #[.string N, .slice A1 m c1] by rw [← hw2]; exact Blk.new _ _ _)
  have HR1 := Lib.hid (r1.below stabI b12)
  have HT22 := Lib.hid (HT2.out w2 b2)
  have HB2 := Lib.hid b2
  have HW2 := Lib.hid hw2
  clear k0 k1 b1 hw2 r1 b12
  obtain ⟨k0, k1⟩ := HK.out w2 b2
  clear b2
  go_upto_region 4 with fail
  rw [HW2.out]
  go_wp2_with fail
  refine HT22.out.mono ?_
  rintro e w3 ⟨A3, c3, rfl, r3, b3⟩
  obtain ⟨w4, hw4⟩ : ∃ w4, w3.alloc (.cells #[.string N, .slice A3 m c3] 42) = w4 := ⟨_, rfl⟩
  have b34 : Below w3.heap.size w3 w4 := by rw [← hw4]; exact belowAlloc _ _
  have b24 := belowThen b3 b34
  have hBB : Blk w4 w3.heap.size 42 #[.string N, .slice A3 m c3] := by rw [← hw4]; exact Blk.new _ _ _
  have HB4 := Lib.hid (belowThen HB2.out b24)
  have HS9 := Lib.hid (HST.out A1 c1 A3 c3 w4 (HR1.out.below stabI b24) (r3.below stabI b34))
  have HW4 := Lib.hid hw4
  have q0 := (HBA.out.below' b24).cell 0
  have q1 := (HBA.out.below' b24).cell 1
  have q2 := hBB.cell 0
  have q3 := hBB.cell 1
  clear b3 hw4 k0 k1 r3 b34 b24 hBB
  go_upto_region 5 with fail
  rw [HW4.out]
  go_wp2_with fail
  refine HS9.out.mono ?_
  rintro e w9 ⟨rfl, b9⟩
  have HB9 := Lib.hid (belowThen HB4.out b9)
  have HX := Lib.hid (HEX.out w9 HB9.out)
  clear b9 q0 q1 q2 q3
  go_wp2_with fail
  refine HX.out.mono ?_
  rintro e w11 ⟨rfl, b11⟩
  go_wp2
  go_ret
  exact ⟨rfl, belowThen HBW.out (belowThen HB9.out b11)⟩
end Go.Proofs.YtnnpkbonbemeaaaDoor
