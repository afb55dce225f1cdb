/-
  The chapter's examples hold.
-/
import Derived.Test.YtcbipokohjajoaaFSeal2
import Derived.Test.YtcbipokohjajoaaFStr3
import Derived.Lib.SlBytesConst
namespace Go.Proofs.Ytcbipokohjajoaa
open Go.RowKit

theorem lit2 (w : World) : Rb (w.alloc (.cells #[.int .u8 172, .int .u8 2] 5)) (some ⟨w.heap.size, 0, none⟩) 2 [172, 2] := Rb.lit w [172, 2] _ (by decide)
theorem lit5 (w : World) : Rb (w.alloc (.cells #[.int .u8 0, .int .u8 141, .int .u8 239, .int .u8 2, .int .u8 210] 5)) (some ⟨w.heap.size, 0, none⟩) 5 [0, 141, 239, 2, 210] := Rb.lit w [0, 141, 239, 2, 210] _ (by decide)
theorem lit1 (w : World) : Rb (w.alloc (.cells #[.int .u8 7] 5)) (some ⟨w.heap.size, 0, none⟩) 1 [7] := Rb.lit w [7] _ (by decide)
theorem lit3 (w : World) : Rb (w.alloc (.cells #[.int .u8 7, .int .u8 172, .int .u8 2] 5)) (some ⟨w.heap.size, 0, none⟩) 3 [7, 172, 2] := Rb.lit w [7, 172, 2] _ (by decide)
theorem lit4 (w : World) : Rb (w.alloc (.cells #[.int .u8 2, .int .u8 2, .int .u8 3] 5)) (some ⟨w.heap.size, 0, none⟩) 3 [2, 2, 3] := Rb.lit w [2, 2, 3] _ (by decide)
theorem litI (w : World) : Rd (w.alloc (.cells #[.int .i64 1, .int .i64 (-2)] 3)) (some ⟨w.heap.size, 0, none⟩) 2 [1, -2] := Rd.lit w [1, -2] _ (by decide)
def digs : List UInt8 := [49, 50, 51, 52, 53, 54, 55, 56, 57]
theorem lit9 (w : World) (fr : Nat × Nat) : Rb (w.alloc (.cells #[.int .u8 49, .int .u8 50, .int .u8 51, .int .u8 52, .int .u8 53, .int .u8 54, .int .u8 55, .int .u8 56, .int .u8 57] 5 fr)) (some ⟨w.heap.size, 0, none⟩) 9 digs :=
  ⟨by decide, by decide, fun _ => ⟨_, rfl, by simp, fun j u hu => by
    rw [Addr.add_lit, Nat.zero_add]
    rw [cell_of_row _ w.heap.size j _ 5 fr (heap_alloc_new w _)]
    rw [← hu, ← List.getElem?_toArray]
    rfl⟩⟩
theorem exErr : errU [172, 2] = 0 ∧ sgn (valU [172, 2]) = 150 ∧ resU [172, 2] = [] := by decide
theorem exOpen : errO [0, 141, 239, 2, 210] = 0 ∧ payO [0, 141, 239, 2, 210] = [] ∧ aftO [0, 141, 239, 2, 210] = [] := by decide +kernel
theorem exU : [7] ++ encU 300 = [7, 172, 2] := by decide +kernel
theorem exI : appIs [] [1, -2] = [2, 2, 3] := by decide +kernel
theorem exS : sealL [] = [0, 141, 239, 2, 210] := by decide +kernel
theorem exC : crc digs = 3421780262 := by decide +kernel
set_option maxRecDepth 100000 in
set_option maxHeartbeats 4000000 in
theorem livesOk (w : World) : Calls Try.prog 10 #[] w fun e w' => e = .returned (.bool true) ∧ Below w.heap.size w w' := by
  have HC := Lib.hid (fun (w : World) (C : Array Value) (n c : Nat) => Lib.run_convert_bytes_const (P := Try.prog) w 22 5 C n c Try.underlying22 Try.underlying5)
  have H1 := Lib.hid (iInt [172, 2] 2 rfl (by decide) _ 2 _ (lit2 w))
  rw [exErr.1, exErr.2.1, exErr.2.2] at H1
  go_enter Try.func10, Try.ntmps10
  go_wp2_with fail
  refine H1.out.mono ?_
  rintro e w1 ⟨A1, q1, c1, rfl, hq1, _, b1⟩
  obtain rfl : 0 = q1 := hq1.out
  have B1 := Lib.hid (stepA0 (b1.mono (by simp)))
  have H2 := Lib.hid (iOpen [0, 141, 239, 2, 210] 5 rfl (by decide) _ 5 _ (lit5 w1))
  rw [exOpen.1, exOpen.2.1, exOpen.2.2] at H2
  clear b1
  go_wp2_with fail
  refine H2.out.mono ?_
  rintro e w2 ⟨A2, q2, c2, A3, q3, c3, rfl, hq2, hq3, _, _, b2⟩
  obtain rfl : 0 = q2 := hq2.out
  obtain rfl : 0 = q3 := hq3.out
  have B2 := Lib.hid (stepA B1.out (b2.mono (by have := B1.out.size; simp; omega)))
  have H3 := Lib.hid (iAppU [7] 1 rfl (by decide) 300 _ 1 _ (lit1 w2))
  rw [exU] at H3
  clear b2
  go_wp2_with fail
  refine H3.out.mono ?_
  rintro e w3 ⟨A4, q4, c4, rfl, hq4, o4, b3⟩
  obtain rfl : 3 = q4 := hq4.out
  have B3 := Lib.hid (stepA B2.out (b3.mono (by have := B2.out.size; simp; omega)))
  have R4 := Lib.hid (o4.rb.1.alloc (.cells #[.int .u8 7, .int .u8 172, .int .u8 2] 5))
  clear b3 o4
  go_wp2_with fail
  refine (rSame [7, 172, 2] [7, 172, 2] true rfl 3 3 rfl rfl _ _ c4 3 _ R4.out (lit3 w3)).mono ?_
  rintro e w' ⟨rfl, rfl⟩
  have B4 := Lib.hid (B3.out.alloc B3.out.size (.cells #[.int .u8 7, .int .u8 172, .int .u8 2] 5))
  obtain ⟨V3, hV3⟩ : ∃ V, w3.alloc (.cells #[.int .u8 7, .int .u8 172, .int .u8 2] 5) = V := ⟨_, rfl⟩
  rw [hV3] at B4 ⊢
  have H4 := Lib.hid (iAppIs [] [1, -2] 0 2 rfl rfl (by decide) (by decide) (by decide) none _ 0 2 _ Rb.nil (litI V3))
  rw [exI] at H4
  clear hV3
  go_wp2_with fail
  refine H4.out.mono ?_
  rintro e w4 ⟨A5, q5, c5, rfl, hq5, o5, b5⟩
  obtain rfl : 3 = q5 := hq5.out
  have B5 := Lib.hid (stepA B4.out (b5.mono (by have := B4.out.size; simp; omega)))
  have R5 := Lib.hid (o5.rb.1.alloc (.cells #[.int .u8 2, .int .u8 2, .int .u8 3] 5))
  clear b5 o5
  go_wp2_with fail
  refine (rSame [2, 2, 3] [2, 2, 3] true rfl 3 3 rfl rfl _ _ c5 3 _ R5.out (lit4 w4)).mono ?_
  rintro e w' ⟨rfl, rfl⟩
  have B6 := Lib.hid (B5.out.alloc B5.out.size (.cells #[.int .u8 2, .int .u8 2, .int .u8 3] 5))
  obtain ⟨V4, hV4⟩ : ∃ V, w4.alloc (.cells #[.int .u8 2, .int .u8 2, .int .u8 3] 5) = V := ⟨_, rfl⟩
  rw [hV4] at B6 ⊢
  have H5 := Lib.hid (iSeal [] 0 rfl (by decide) none 0 V4 Rb.nil)
  rw [exS] at H5
  clear hV4
  go_wp2_with fail
  refine H5.out.mono ?_
  rintro e w5 ⟨A6, q6, c6, rfl, hq6, o6, b6⟩
  obtain rfl : 5 = q6 := hq6.out
  have B7 := Lib.hid (belowThen B6.out b6)
  have R6 := Lib.hid (o6.rb.1.alloc (.cells #[.int .u8 0, .int .u8 141, .int .u8 239, .int .u8 2, .int .u8 210] 5))
  clear b6 o6
  go_wp2_with fail
  refine (rSame [0, 141, 239, 2, 210] [0, 141, 239, 2, 210] true rfl 5 5 rfl rfl _ _ c6 5 _ R6.out (lit5 w5)).mono ?_
  rintro e w' ⟨rfl, rfl⟩
  have B8 := Lib.hid (B7.out.alloc B7.out.size (.cells #[.int .u8 0, .int .u8 141, .int .u8 239, .int .u8 2, .int .u8 210] 5))
  obtain ⟨V5, hV5⟩ : ∃ V, w5.alloc (.cells #[.int .u8 0, .int .u8 141, .int .u8 239, .int .u8 2, .int .u8 210] 5) = V := ⟨_, rfl⟩
  rw [hV5] at B8 ⊢
  have kc := HC.out V5 #[.int .u8 49, .int .u8 50, .int .u8 51, .int .u8 52, .int .u8 53, .int .u8 54, .int .u8 55, .int .u8 56, .int .u8 57] 9 9
  have H6 := Lib.hid (iSum digs 9 rfl _ 9 _ (lit9 V5 (9, 10)))
  rw [exC] at H6
  clear hV5
  go_wp2_with fail
  refine H6.out.mono ?_
  rintro e w' ⟨rfl, rfl⟩
  go_wp2
  go_ret
  exact ⟨rfl, B8.out.alloc B8.out.size _⟩
end Go.Proofs.Ytcbipokohjajoaa
