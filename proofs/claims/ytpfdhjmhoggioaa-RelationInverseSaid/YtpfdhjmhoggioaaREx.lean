/-
  The contracts of the law's own functions same and exampleHolds.
-/
import Derived.Test.YtpfdhjmhoggioaaRCyc
import Derived.Test.YtpfdhjmhoggioaaRHas
import Derived.Test.YtpfdhjmhoggioaaRComp
import Derived.Test.YtpfdhjmhoggioaaInts
namespace Go.Proofs.Ytpfdhjmhoggioaa
open Go.RowKit Go.Maps

theorem lSame (N M : Int) (l m : Prs) (n k : Nat) (hn : l.length = n) (hm : m.length = k) (r : Bool) (hr : sameR N l M m = r) (hs : n ≤ 65536) (A B : Option Addr) (c d : Nat) (w : World) (ha : Rp w A c l) (hb : Rp w B d m) :
    Calls Try.prog 13 #[relV N A n c, relV M B k d] w fun e w' => e = .returned (.bool r) ∧ Below w.heap.size w w' := by
  obtain ⟨W, hW, hB0, hB1, hbW, hzW⟩ := twoBoxes w N M (.slice A n c) (.slice B k d)
  have HX := Lib.hid (rSame N M l m n k hn hm r hr hs A B c d W (ha.below hbW) (hb.below hbW))
  obtain ⟨c0, c1, _, _⟩ := hB0.facts
  obtain ⟨c2, c3, _, _⟩ := hB1.facts
  clear ha hb
  go_enter Try.func13, Try.ntmps13
  go_wp2_with fail
  refine HX.out.mono ?_
  rintro e w1 ⟨rfl, b1⟩
  go_wp2
  go_ret
  exact ⟨rfl, hbW.trans (b1.mono hbW.size)⟩
theorem Rp.lit (w : World) (l : Prs) (h : l.length ≤ 1000) : Rp (w.alloc (.cells (ct l).toArray 38)) (some ⟨w.heap.size, 0, none⟩) l.length l :=
  ⟨Nat.le_refl _, by unfold maxLen; omega, fun _ => ⟨w.heap.size, 0, rfl, by simp, fun j hj => by
    have hh := heap_alloc_new w (.cells (ct l).toArray 38)
    obtain ⟨h1, h2⟩ := ctAt l j hj
    rw [Nat.zero_add]
    exact ⟨by rw [cell_of_row _ _ _ _ 38 (0, 0) hh]; simpa using h1, by rw [cell_of_row _ _ _ _ 38 (0, 0) hh]; simpa using h2⟩⟩⟩
theorem exRedC (A : Option Addr) (c : Nat) (w : World) (ha : Rp w A c exA) : Calls Try.prog 29 #[relV 4 A 3 c] w (fun e w' => ∃ A c, e = .returned (.tuple #[relV 4 A 2 c, .int .i64 0]) ∧ Rp w' A c [(0, 1), (1, 2)] ∧ Below w.heap.size w w') :=
  iReductionYes 4 exA 3 (by omega) rfl (by omega) (by decide) (by unfold acyR; rw [show okR ((4 : Nat) : Int) exA = true by decide, Bool.true_and]; exact acyIff.2 exAcy) _ exRed A c w ha
theorem exCloC (A : Option Addr) (c : Nat) (w : World) (ha : Rp w A c exA) : Calls Try.prog 27 #[relV 4 A 3 c] w (fun e w' => ∃ A c, e = .returned (relV 4 A 3 c) ∧ Rp w' A c [(0, 1), (0, 2), (1, 2)] ∧ Below w.heap.size w w') := by
  have h := iClosure 4 exA 3 rfl (by omega) A c w ha
  have e1 : nrmN 4 exA = 4 := by decide
  have e2 : cloL 4 exA = [(0, 1), (0, 2), (1, 2)] := by
    unfold cloL
    rw [if_pos (by decide)]
    exact exClo
  rw [e1, e2] at h
  exact h
theorem exCycC (A : Option Addr) (c : Nat) (w : World) (ha : Rp w A c exB) : Calls Try.prog 22 #[relV 4 A 3 c] w (fun e w' => ∃ A c, e = .returned (.tuple #[.slice A 2 c, .bool true]) ∧ Rd w' A c [1, 2] ∧ Below w.heap.size w w') := by
  have h := iCycleYes 4 (by omega) exB 3 rfl (by omega) (by decide) _ rfl A c w ha
  have e2 : acyB 4 (hasP exB) = false := by
    cases e : acyB 4 (hasP exB)
    · rfl
    · exact absurd (acyIff.1 e) exNot
  rw [exCyc, e2] at h
  exact h
set_option maxRecDepth 100000 in
set_option maxHeartbeats 2000000 in
theorem lExample (w : World) : Calls Try.prog 8 #[] w fun e w' => e = .returned (.bool true) ∧ Below w.heap.size w w' := by
  obtain ⟨W1, hW1⟩ : ∃ W1, w.alloc (.cells #[.int .i64 0, .int .i64 1, .int .i64 1, .int .i64 2, .int .i64 0, .int .i64 2] 38) = W1 := ⟨_, rfl⟩
  have hR1 : Rp W1 (some ⟨w.heap.size, 0, none⟩) 3 exA := by rw [← hW1]; exact Rp.lit w exA (by decide)
  obtain ⟨W2, hW2⟩ : ∃ W2, W1.alloc (.cells #[.int .i64 4, .slice (some ⟨w.heap.size, 0, none⟩) 3 3] 24) = W2 := ⟨_, rfl⟩
  have HB1 : Hid (BoxR W2 W1.heap.size 4 (.slice (some ⟨w.heap.size, 0, none⟩) 3 3)) := by rw [← hW2]; exact Lib.hid (BoxR.new W1 4 _)
  have b1 : Below w.heap.size w W1 := by rw [← hW1]; exact belowAlloc _ _
  have b2 : Below W1.heap.size W1 W2 := by rw [← hW2]; exact belowAlloc _ _
  have hb2 := b1.trans (b2.mono b1.size)
  have HR := Lib.hid (hR1.below b2)
  have hz1 : W1.heap.size = w.heap.size + 1 := by rw [← hW1]; simp
  rw [hz1] at HB1
  obtain ⟨c0, c1, _, _⟩ := HB1.out.facts
  clear hR1 b1 b2
  go_enter Try.func8, Try.ntmps8
  go_wp2_with fail
  refine (exRedC _ _ _ HR.out).mono ?_
  rintro e w3 ⟨A3, c3, rfl, hr3, b3⟩
  have HB1 := Lib.hid (HB1.out.below b3)
  have HR := Lib.hid (HR.out.below b3)
  have hb3 := hb2.trans (b3.mono hb2.size)
  obtain ⟨X, hX⟩ : ∃ X, w3.alloc (.cells #[.int .i64 4, .slice A3 2 c3] 24) = X := ⟨_, rfl⟩
  have HB2 : Hid (BoxR X w3.heap.size 4 (.slice A3 2 c3)) := by rw [← hX]; exact Lib.hid (BoxR.new w3 4 _)
  have bX : Below w3.heap.size w3 X := by rw [← hX]; exact belowAlloc _ _
  have hzX : X.heap.size = w3.heap.size + 1 := by rw [← hX]; simp
  obtain ⟨Y, hY⟩ : ∃ Y, X.alloc (.cells #[.int .i64 2, .int .i64 1, .int .i64 1, .int .i64 2, .int .i64 0, .int .i64 1] 38) = Y := ⟨_, rfl⟩
  have hRB : Rp Y (some ⟨w3.heap.size + 1, 0, none⟩) 3 exB := by rw [← hY, ← hzX]; exact Rp.lit X exB (by decide)
  have bY : Below X.heap.size X Y := by rw [← hY]; exact belowAlloc _ _
  have HRB := Lib.hid hRB; clear hRB
  have HB1 := Lib.hid ((HB1.out.below bX).below bY)
  have HB2 := Lib.hid (HB2.out.below bY)
  have HR := Lib.hid ((HR.out.below bX).below bY)
  have HR3 := Lib.hid ((hr3.below bX).below bY); clear hr3
  have hbY := (hb3.trans (bX.mono hb3.size)).trans (bY.mono (Nat.le_trans hb3.size bX.size))
  clear bX bY c0 c1
  go_wp2_with fail
  refine (exCycC _ _ _ HRB.out).mono ?_
  rintro e w5 ⟨A5, c5, rfl, hr5, b5⟩
  have HB1 := Lib.hid (HB1.out.below b5)
  have HB2 := Lib.hid (HB2.out.below b5)
  have HR := Lib.hid (HR.out.below b5)
  have HR3 := Lib.hid (HR3.out.below b5)
  have hb5 := hbY.trans (b5.mono hbY.size)
  obtain ⟨Z, hZ⟩ : ∃ Z, w5.alloc (.cells #[.int .i64 0, .int .i64 1, .int .i64 1, .int .i64 2] 38) = Z := ⟨_, rfl⟩
  have hRZ : Rp Z (some ⟨w5.heap.size, 0, none⟩) 2 [(0, 1), (1, 2)] := by rw [← hZ]; exact Rp.lit w5 [(0, 1), (1, 2)] (by decide)
  have bZ : Below w5.heap.size w5 Z := by rw [← hZ]; exact belowAlloc _ _
  have HRZ := Lib.hid hRZ; clear hRZ
  have HR3 := Lib.hid (HR3.out.below bZ)
  have HR5 := Lib.hid (hr5.below bZ); clear hr5
  have HBZ1 := Lib.hid (HB1.out.below bZ)
  have HRZ1 := Lib.hid (HR.out.below bZ)
  have hbZ := hb5.trans (bZ.mono hb5.size)
  obtain ⟨d0, d1, _, _⟩ := HB2.out.facts
  clear bZ
  go_wp2_with fail
  refine (lSame 4 4 [(0, 1), (1, 2)] [(0, 1), (1, 2)] 2 2 rfl rfl true (by decide) (by omega) A3 (some ⟨w5.heap.size, 0, none⟩) c3 2 _ HR3.out HRZ.out).mono ?_
  rintro e w6 ⟨rfl, b6⟩
  have HB1 := Lib.hid (HBZ1.out.below b6)
  have HR := Lib.hid (HRZ1.out.below b6)
  have hb6 := hbZ.trans (b6.mono hbZ.size)
  obtain ⟨V, hV⟩ : ∃ V, w6.alloc (.cells #[.int .i64 1, .int .i64 2] 3) = V := ⟨_, rfl⟩
  have hRV : Rd V (some ⟨w6.heap.size, 0, none⟩) 2 [1, 2] := by rw [← hV]; exact Rd.lit w6 [1, 2] 3 (by simp)
  have bV : Below w6.heap.size w6 V := by rw [← hV]; exact belowAlloc _ _
  have HRV := Lib.hid hRV; clear hRV
  have HR5 := Lib.hid ((HR5.out.below b6).below bV)
  have HB1 := Lib.hid (HB1.out.below bV)
  have HR := Lib.hid (HR.out.below bV)
  have hbV := hb6.trans (bV.mono hb6.size)
  clear bV
  go_wp2_with fail
  refine (rInts [1, 2] [1, 2] true (by decide) A5 (some ⟨w6.heap.size, 0, none⟩) c5 2 _ HR5.out HRV.out).mono ?_
  rintro e w7 ⟨rfl, q, rfl⟩
  obtain ⟨w7, hw7⟩ : ∃ x, V.drewN q = x := ⟨_, rfl⟩
  rw [hw7]
  have bq : Below V.heap.size V w7 := by rw [← hw7]; exact belowN V q
  have HB1 := Lib.hid (HB1.out.below bq)
  have HR := Lib.hid (HR.out.below bq)
  have hb7 := hbV.trans (bq.mono hbV.size)
  obtain ⟨c0, c1, _, _⟩ := HB1.out.facts
  clear hw7 bq
  go_wp2_with fail
  refine (exCloC _ _ _ HR.out).mono ?_
  rintro e w8 ⟨A8, c8, rfl, hr8, b8⟩
  have hb8 := hb7.trans (b8.mono hb7.size)
  obtain ⟨U, hU⟩ : ∃ U, w8.alloc (.cells #[.int .i64 0, .int .i64 1, .int .i64 0, .int .i64 2, .int .i64 1, .int .i64 2] 38) = U := ⟨_, rfl⟩
  have hRU : Rp U (some ⟨w8.heap.size, 0, none⟩) 3 [(0, 1), (0, 2), (1, 2)] := by rw [← hU]; exact Rp.lit w8 [(0, 1), (0, 2), (1, 2)] (by decide)
  have bU : Below w8.heap.size w8 U := by rw [← hU]; exact belowAlloc _ _
  have HRU := Lib.hid hRU; clear hRU
  have HR8 := Lib.hid (hr8.below bU); clear hr8
  have hbU := hb8.trans (bU.mono hb8.size)
  clear bU
  go_wp2_with fail
  refine (lSame 4 4 [(0, 1), (0, 2), (1, 2)] [(0, 1), (0, 2), (1, 2)] 3 3 rfl rfl true (by decide) (by omega) A8 (some ⟨w8.heap.size, 0, none⟩) c8 3 _ HR8.out HRU.out).mono ?_
  rintro e w9 ⟨rfl, b9⟩
  have hb9 := hbU.trans (b9.mono hbU.size)
  go_wp2_with fail
  refine (iValid 65 [] 0 rfl false (by decide) none 0 _ Rp.nil).mono ?_
  rintro e w10 ⟨rfl, b10⟩
  go_wp2
  go_ret
  exact ⟨rfl, hb9.trans (b10.mono hb9.size)⟩
end Go.Proofs.Ytpfdhjmhoggioaa
