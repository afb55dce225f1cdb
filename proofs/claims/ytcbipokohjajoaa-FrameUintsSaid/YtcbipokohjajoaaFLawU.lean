/-
  The law FrameUints.
-/
import Derived.Test.YtcbipokohjajoaaFLives
namespace Go.Proofs.Ytcbipokohjajoaa
open Go.RowKit

set_option maxRecDepth 100000 in
set_option maxHeartbeats 4000000 in
theorem lawUints (l : List UInt8) (n : Nat) (hn : l.length = n) (k : Int) (h1 : -9223372036854775808 ≤ k) (h2 : k ≤ 9223372036854775807) (A : Option Addr) (c : Nat) (w : World) (ha : Rb w A c l) :
    Calls Try.prog 3 #[.slice A n c, .int .i64 k] w fun e w' => e = .returned (.bool true) ∧ Below w.heap.size w w' := by
  by_cases h : n > 100
  · have H := Lib.hid (livesOk w)
    go_enter Try.func3, Try.ntmps3
    go_wp2_with fail
    refine H.out.mono ?_
    rintro e w1 ⟨rfl, b1⟩
    go_wp2
    go_ret
    exact ⟨rfl, b1⟩
  · have HN := Lib.hid hn
    have HA := Lib.hid ha
    have H1 := Lib.hid h1
    have H2 := Lib.hid h2
    have HV : ∃ x, valU l = x := ⟨_, rfl⟩
    obtain ⟨V, hV⟩ := HV
    have HV := Lib.hid hV
    clear hV
    have HR : ∃ x, resU l = x := ⟨_, rfl⟩
    obtain ⟨R, hR⟩ := HR
    have HR := Lib.hid hR
    clear hR
    have HE : ∃ x, errU l = x := ⟨_, rfl⟩
    obtain ⟨E, hE⟩ := HE
    have HE := Lib.hid hE
    clear hE
    have HS : ∃ x, sgn (valU l) = x := ⟨_, rfl⟩
    obtain ⟨S, hS⟩ := HS
    have HS := Lib.hid hS
    clear hS
    have HM : ∃ x, l ++ encU k = x := ⟨_, rfl⟩
    obtain ⟨M, hM⟩ := HM
    have HM := Lib.hid hM
    clear hM
    have HP : ∃ x, l ++ encS k = x := ⟨_, rfl⟩
    obtain ⟨P, hP⟩ := HP
    have HP := Lib.hid hP
    clear hP
    clear hn ha h1 h2
    go_enter Try.func3, Try.ntmps3
    have C1 := Lib.hid (iUint l n HN.out (by omega) A c w HA.out)
    rw [HV.out, HR.out, HE.out] at C1
    go_wp2_with fail
    refine C1.out.mono ?_
    rintro e w1 ⟨A1, q1, c1, rfl, hq1, rb1, b1⟩
    have HA_1 := Lib.hid (HA.out.below b1)
    have B_1 := Lib.hid (b1)
    have ru_1 := Lib.hid (rb1)
    clear C1 b1 rb1
    clear HA
    have C2 := Lib.hid (rUint l n HN.out (by omega) A c w1 HA_1.out)
    rw [HV.out, HR.out, HE.out] at C2
    go_wp2_with fail
    refine C2.out.mono ?_
    rintro e w2 ⟨A2, q2, c2, rfl, hq2, rb2, _, b2⟩
    have HA_2 := Lib.hid (HA_1.out.below b2)
    have ru_2 := Lib.hid (ru_1.out.below b2)
    have B_2 := Lib.hid (belowThen B_1.out b2)
    have su_2 := Lib.hid (rb2)
    clear C2 b2 rb2
    clear HA_1 ru_1
    clear B_1
    have C3 := Lib.hid (iInt l n HN.out (by omega) A c w2 HA_2.out)
    rw [HS.out, HR.out, HE.out] at C3
    go_wp2_with fail
    refine C3.out.mono ?_
    rintro e w3 ⟨A3, q3, c3, rfl, hq3, rb3, b3⟩
    have HA_3 := Lib.hid (HA_2.out.below b3)
    have ru_3 := Lib.hid (ru_2.out.below b3)
    have su_3 := Lib.hid (su_2.out.below b3)
    have B_3 := Lib.hid (belowThen B_2.out b3)
    have ri_3 := Lib.hid (rb3)
    clear C3 b3 rb3
    clear HA_2 ru_2 su_2
    clear B_2
    have C4 := Lib.hid (rInt l n HN.out (by omega) A c w3 HA_3.out)
    rw [HS.out, HR.out, HE.out] at C4
    go_wp2_with fail
    refine C4.out.mono ?_
    rintro e w4 ⟨A4, q4, c4, rfl, hq4, rb4, _, b4⟩
    have HA_4 := Lib.hid (HA_3.out.below b4)
    have ru_4 := Lib.hid (ru_3.out.below b4)
    have su_4 := Lib.hid (su_3.out.below b4)
    have ri_4 := Lib.hid (ri_3.out.below b4)
    have B_4 := Lib.hid (belowThen B_3.out b4)
    have si_4 := Lib.hid (rb4)
    clear C4 b4 rb4
    clear HA_3 ru_3 su_3 ri_3
    clear B_3
    have C5 := Lib.hid (rSame (R) (R) true (eqLy rfl) _ _ hq1.out hq2.out _ _ _ _ w4 ru_4.out su_4.out)
    go_wp2_with fail
    refine C5.out.mono ?_
    rintro e w' ⟨rfl, rfl⟩
    clear C5
    have C5 := Lib.hid (rSame (R) (R) true (eqLy rfl) _ _ hq3.out hq4.out _ _ _ _ w4 ri_4.out si_4.out)
    go_wp2_with fail
    refine C5.out.mono ?_
    rintro e w' ⟨rfl, rfl⟩
    clear C5
    have C5 := Lib.hid (iAppU l n HN.out (by omega) k A c w4 HA_4.out)
    rw [HM.out] at C5
    go_wp2_with fail
    refine C5.out.mono ?_
    rintro e w5 ⟨A5, q5, c5, rfl, hq5, ob5, b5⟩
    have HA_5 := Lib.hid (HA_4.out.below b5)
    have B_5 := Lib.hid (belowThen B_4.out b5)
    have m1_5 := Lib.hid (ob5.rb.1)
    clear C5 b5 ob5
    clear HA_4
    clear B_4
    have C6 := Lib.hid (rAppU l n HN.out (by omega) k A c w5 HA_5.out)
    rw [HM.out] at C6
    go_wp2_with fail
    refine C6.out.mono ?_
    rintro e w6 ⟨A6, q6, c6, rfl, hq6, ob6, b6⟩
    have HA_6 := Lib.hid (HA_5.out.below b6)
    have m1_6 := Lib.hid (m1_5.out.below b6)
    have B_6 := Lib.hid (belowThen B_5.out b6)
    have m2_6 := Lib.hid (ob6.rb.1)
    clear C6 b6 ob6
    clear HA_5 m1_5
    clear B_5
    have C7 := Lib.hid (rSame (M) (M) true (eqLy rfl) _ _ hq5.out hq6.out _ _ _ _ w6 m1_6.out m2_6.out)
    go_wp2_with fail
    refine C7.out.mono ?_
    rintro e w' ⟨rfl, rfl⟩
    clear C7
    have C7 := Lib.hid (iAppI l n HN.out (by omega) k H1.out H2.out A c w6 HA_6.out)
    rw [HP.out] at C7
    go_wp2_with fail
    refine C7.out.mono ?_
    rintro e w7 ⟨A7, q7, c7, rfl, hq7, ob7, b7⟩
    have HA_7 := Lib.hid (HA_6.out.below b7)
    have B_7 := Lib.hid (belowThen B_6.out b7)
    have p1_7 := Lib.hid (ob7.rb.1)
    clear C7 b7 ob7
    clear HA_6
    clear B_6
    have C8 := Lib.hid (rAppI l n HN.out (by omega) k A c w7 HA_7.out)
    rw [HP.out] at C8
    go_wp2_with fail
    refine C8.out.mono ?_
    rintro e w8 ⟨A8, q8, c8, rfl, hq8, ob8, b8⟩
    have HA_8 := Lib.hid (HA_7.out.below b8)
    have p1_8 := Lib.hid (p1_7.out.below b8)
    have B_8 := Lib.hid (belowThen B_7.out b8)
    have p2_8 := Lib.hid (ob8.rb.1)
    clear C8 b8 ob8
    clear HA_7 p1_7
    clear B_7
    have C9 := Lib.hid (rSame (P) (P) true (eqLy rfl) _ _ hq7.out hq8.out _ _ _ _ w8 p1_8.out p2_8.out)
    go_wp2_with fail
    refine C9.out.mono ?_
    rintro e w' ⟨rfl, rfl⟩
    clear C9
    have CL := Lib.hid (livesOk w8)
    go_wp2_with fail
    refine CL.out.mono ?_
    rintro e wL ⟨rfl, bL⟩
    have BL := belowThen B_8.out bL
    clear bL
    go_wp2
    go_ret
    exact ⟨rfl, BL⟩
end Go.Proofs.Ytcbipokohjajoaa
