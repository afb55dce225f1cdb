/-
  The law FrameSeals.
-/
import Derived.Test.YtcbipokohjajoaaFLives
namespace Go.Proofs.Ytcbipokohjajoaa
open Go.RowKit

set_option maxRecDepth 100000 in
set_option maxHeartbeats 4000000 in
theorem lawSeals (l : List UInt8) (n : Nat) (hn : l.length = n) (A : Option Addr) (c : Nat) (w : World) (ha : Rb w A c l) :
    Calls Try.prog 5 #[.slice A n c] w fun e w' => e = .returned (.bool true) ∧ Below w.heap.size w w' := by
  by_cases h : n > 300
  · have H := Lib.hid (livesOk w)
    go_enter Try.func5, Try.ntmps5
    go_wp2_with fail
    refine H.out.mono ?_
    rintro e w1 ⟨rfl, b1⟩
    go_wp2
    go_ret
    exact ⟨rfl, b1⟩
  · have HN := Lib.hid hn
    have HA := Lib.hid ha
    have HP : ∃ x, payO l = x := ⟨_, rfl⟩
    obtain ⟨P, hP⟩ := HP
    have HP := Lib.hid hP
    clear hP
    have HR : ∃ x, aftO l = x := ⟨_, rfl⟩
    obtain ⟨R, hR⟩ := HR
    have HR := Lib.hid hR
    clear hR
    have HE : ∃ x, errO l = x := ⟨_, rfl⟩
    obtain ⟨E, hE⟩ := HE
    have HE := Lib.hid hE
    clear hE
    have HC : ∃ x, crc l = x := ⟨_, rfl⟩
    obtain ⟨C, hC⟩ := HC
    have HC := Lib.hid hC
    clear hC
    have HM : ∃ x, sealL l = x := ⟨_, rfl⟩
    obtain ⟨M, hM⟩ := HM
    have HM := Lib.hid hM
    clear hM
    clear hn ha
    go_enter Try.func5, Try.ntmps5
    have C1 := Lib.hid (iOpen l n HN.out (by omega) A c w HA.out)
    rw [HP.out, HR.out, HE.out] at C1
    go_wp2_with fail
    refine C1.out.mono ?_
    rintro e w1 ⟨A1, q1, c1, D1, k1, d1, rfl, hq1, hk1, rl1, rb1, b1⟩
    have HA_1 := Lib.hid (HA.out.below b1)
    have B_1 := Lib.hid (b1)
    have p1_1 := Lib.hid (rl1)
    have r1_1 := Lib.hid (rb1)
    clear C1 b1 rb1 rl1
    clear HA
    have C2 := Lib.hid (rOpen l n HN.out (by omega) A c w1 HA_1.out)
    rw [HP.out, HR.out, HE.out] at C2
    go_wp2_with fail
    refine C2.out.mono ?_
    rintro e w2 ⟨A2, q2, c2, D2, k2, d2, rfl, hq2, hk2, rl2, rb2, b2⟩
    have HA_2 := Lib.hid (HA_1.out.below b2)
    have p1_2 := Lib.hid (p1_1.out.below b2)
    have r1_2 := Lib.hid (r1_1.out.below b2)
    have B_2 := Lib.hid (belowThen B_1.out b2)
    have p2_2 := Lib.hid (rl2)
    have r2_2 := Lib.hid (rb2)
    clear C2 b2 rb2 rl2
    clear HA_1 p1_1 r1_1
    clear B_1
    have C3 := Lib.hid (rSame (P) (P) true (eqLy rfl) _ _ hq1.out hq2.out _ _ _ _ w2 p1_2.out p2_2.out)
    go_wp2_with fail
    refine C3.out.mono ?_
    rintro e w' ⟨rfl, rfl⟩
    clear C3
    have C3 := Lib.hid (rSame (R) (R) true (eqLy rfl) _ _ hk1.out hk2.out _ _ _ _ w2 r1_2.out r2_2.out)
    go_wp2_with fail
    refine C3.out.mono ?_
    rintro e w' ⟨rfl, rfl⟩
    clear C3
    have C3 := Lib.hid (iSum l n HN.out A c w2 HA_2.out)
    rw [HC.out] at C3
    go_wp2_with fail
    refine C3.out.mono ?_
    rintro e w' ⟨rfl, rfl⟩
    clear C3
    have C3 := Lib.hid (rSum l n HN.out A c w2 HA_2.out)
    rw [HC.out] at C3
    go_wp2_with fail
    refine C3.out.mono ?_
    rintro e w' ⟨rfl, rfl⟩
    clear C3
    have C3 := Lib.hid (iSeal l n HN.out (by omega) A c w2 HA_2.out)
    rw [HM.out] at C3
    go_wp2_with fail
    refine C3.out.mono ?_
    rintro e w3 ⟨A3, q3, c3, rfl, hq3, ob3, b3⟩
    have HA_3 := Lib.hid (HA_2.out.below b3)
    have B_3 := Lib.hid (belowThen B_2.out b3)
    have m1_3 := Lib.hid (ob3.rb.1)
    clear C3 b3 ob3
    clear HA_2
    clear B_2
    have C4 := Lib.hid (rSeal l n HN.out (by omega) A c w3 HA_3.out)
    rw [HM.out] at C4
    go_wp2_with fail
    refine C4.out.mono ?_
    rintro e w4 ⟨A4, q4, c4, rfl, hq4, ob4, b4⟩
    have HA_4 := Lib.hid (HA_3.out.below b4)
    have m1_4 := Lib.hid (m1_3.out.below b4)
    have B_4 := Lib.hid (belowThen B_3.out b4)
    have m2_4 := Lib.hid (ob4.rb.1)
    clear C4 b4 ob4
    clear HA_3 m1_3
    clear B_3
    have C5 := Lib.hid (rSame (M) (M) true (eqLy rfl) _ _ hq3.out hq4.out _ _ _ _ w4 m1_4.out m2_4.out)
    go_wp2_with fail
    refine C5.out.mono ?_
    rintro e w' ⟨rfl, rfl⟩
    clear C5
    have CL := Lib.hid (livesOk w4)
    go_wp2_with fail
    refine CL.out.mono ?_
    rintro e wL ⟨rfl, bL⟩
    have BL := belowThen B_4.out bL
    clear bL
    go_wp2
    go_ret
    exact ⟨rfl, BL⟩
end Go.Proofs.Ytcbipokohjajoaa
