/-
  The law FrameCanonical.
-/
import Derived.Test.YtcbipokohjajoaaFLives
import Derived.Test.YtcbipokohjajoaaFCanM
import Derived.Test.YtcbipokohjajoaaFLawT
namespace Go.Proofs.Ytcbipokohjajoaa
open Go.RowKit

theorem strSize (S : List UInt8) : encL (ByteArray.size ⟨S.toArray⟩) ++ (ByteArray.data ⟨S.toArray⟩).toList = encL S.length ++ S := by simp [ByteArray.size]
set_option maxRecDepth 100000 in
set_option maxHeartbeats 16000000 in
theorem lawCanonical (l : List UInt8) (n : Nat) (hn : l.length = n) (A : Option Addr) (c : Nat) (w : World) (ha : Rb w A c l) :
    Calls Try.prog 7 #[.slice A n c] w fun e w' => e = .returned (.bool true) ∧ Below w.heap.size w w' := by
  by_cases h : n > 200
  · have H := Lib.hid (livesOk w)
    go_enter Try.func7, Try.ntmps7
    go_wp2_with fail
    refine H.out.mono ?_
    rintro e w1 ⟨rfl, b1⟩
    go_wp2
    go_ret
    exact ⟨rfl, b1⟩
  have HN := Lib.hid hn
  have HA := Lib.hid ha
  clear hn ha
  by_cases hu : errU l = 0
  · have hv := valLeU l
    have he := decEnc hu
    obtain ⟨he1, _⟩ := he
    have hle : (encL (valU l)).length + (resU l).length = n := by rw [← HN.out]; conv => rhs; rw [← he1, List.length_append]
    have i3 := intsOne l 100
    have i4 := strOne l 200
    have i5 := sealOne l
    have hd3 : errT l 200 = 0 → errT l 200 = 0 := id
    obtain ⟨V, hV⟩ : ∃ V, valU l = V := ⟨_, rfl⟩
    obtain ⟨R, hR⟩ : ∃ R, resU l = R := ⟨_, rfl⟩
    rw [hV] at hv hle he1 i3 i5
    rw [hR] at hle he1
    have hes := encSgn hv
    have heu := encUNat hv
    have HV := Lib.hid hV
    have HR := Lib.hid hR
    have HEV := Lib.hid he1
    have HLE := Lib.hid hle
    have HES := Lib.hid hes
    have HEU := Lib.hid heu
    have HU := Lib.hid hu
    have I3 := Lib.hid i3
    have I4 := Lib.hid i4
    have I5 := Lib.hid i5
    have HSB := Lib.hid (sgnBd hv)
    clear hV hR he1 hle hes heu hu i3 i4 i5 hd3
    go_enter Try.func7, Try.ntmps7
    have CC := Lib.hid (iUint l n HN.out (by omega) A c w HA.out)
    rw [HU.out, HV.out, HR.out] at CC
    go_wp2_with fail
    refine CC.out.mono ?_
    rintro e w1 ⟨A1, q1, c1, rfl, hq1, rb1, bb⟩
    have B1 := Lib.hid (bb)
    clear CC
    have RU := Lib.hid rb1
    clear bb rb1
    have CC := Lib.hid (iAppU [] 0 rfl (by omega) (V : Int) none 0 w1 Rb.nil)
    rw [List.nil_append, HEU.out] at CC
    go_wp2_with fail
    refine CC.out.mono ?_
    rintro e w2 ⟨A2, q2, c2, rfl, hq2, ob2, bb⟩
    have B2 := Lib.hid (belowThen B1.out bb)
    clear CC
    have RU2 := Lib.hid (RU.out.below bb)
    have OB := Lib.hid (ob2.mono (base' := w.heap.size) B1.out.size)
    clear ob2 bb RU
    have hz3 := B2.out.size
    go_wp2_with (at_builtin; refine appBg _ (by rfl) (.tmp 24) (.tmp 25) rfl w.heap.size _ (encL V) rfl OB.out A1 q1 c1 (R) rfl hq1.out.symm RU2.out (by have := HLE.out; omega) hz3 ?_; intro v3 w3 o3 b3)
    rw [HEV.out] at o3
    have B3 := Lib.hid (B2.out.trans b3)
    obtain ⟨A3, c3, rfl, rb3, _⟩ := o3.rd
    rw [HN.out]
    have R3 := Lib.hid rb3
    clear o3 b3 rb3
    clear OB RU2
    have CC := Lib.hid (rSame l l true (eqLy rfl) n n HN.out HN.out A3 A c3 c w3 R3.out (HA.out.below B3.out))
    go_wp2_with fail
    refine CC.out.mono ?_
    rintro e w' ⟨rfl, rfl⟩
    clear CC
    have CC := Lib.hid (iInt l n HN.out (by omega) A c w3 (HA.out.below B3.out))
    rw [HU.out, HV.out, HR.out] at CC
    go_wp2_with fail
    refine CC.out.mono ?_
    rintro e w4 ⟨A4, q4, c4, rfl, hq4, rb4, bb⟩
    have B4 := Lib.hid (belowThen B3.out bb)
    clear CC
    have RU := Lib.hid rb4
    clear bb rb4
    have CC := Lib.hid (iAppI [] 0 rfl (by omega) (sgn V) HSB.out.1 HSB.out.2 none 0 w4 Rb.nil)
    rw [List.nil_append, HES.out] at CC
    go_wp2_with fail
    refine CC.out.mono ?_
    rintro e w5 ⟨A5, q5, c5, rfl, hq5, ob5, bb⟩
    have B5 := Lib.hid (belowThen B4.out bb)
    clear CC
    have RU2 := Lib.hid (RU.out.below bb)
    have OB := Lib.hid (ob5.mono (base' := w.heap.size) B4.out.size)
    clear ob5 bb RU
    have hz6 := B5.out.size
    go_wp2_with (at_builtin; refine appBg _ (by rfl) (.tmp 41) (.tmp 42) rfl w.heap.size _ (encL V) rfl OB.out A4 q4 c4 (R) rfl hq4.out.symm RU2.out (by have := HLE.out; omega) hz6 ?_; intro v6 w6 o6 b6)
    rw [HEV.out] at o6
    have B6 := Lib.hid (B5.out.trans b6)
    obtain ⟨A6, c6, rfl, rb6, _⟩ := o6.rd
    rw [HN.out]
    have R6 := Lib.hid rb6
    clear o6 b6 rb6
    clear OB RU2
    have CC := Lib.hid (rSame l l true (eqLy rfl) n n HN.out HN.out A6 A c6 c w6 R6.out (HA.out.below B6.out))
    go_wp2_with fail
    refine CC.out.mono ?_
    rintro e w' ⟨rfl, rfl⟩
    clear CC
    obtain ⟨t3, ht3⟩ : ∃ t, intsD l 100 = t := ⟨_, rfl⟩
    obtain ⟨L, R3, E3⟩ := t3
    have i3 := I3.out
    rw [ht3] at i3
    dsimp only at i3
    have HT3 := Lib.hid ht3
    clear ht3 I3
    by_cases h3 : E3 = 0
    · subst h3
      obtain ⟨_, hm3, hl3, hf3, he3⟩ := i3 rfl
      have hlen3 : (appIs [] L).length + R3.length = n := by rw [← HN.out]; conv => rhs; rw [← he3, List.length_append]
      have hb3 : ∀ x ∈ L, -9223372036854775808 ≤ x ∧ x ≤ 9223372036854775807 := fun x hx => by
        have h4 := List.all_eq_true.1 hf3 x hx
        unfold fitS at h4; simp at h4; omega
      have hL3 : L.length ≤ 100 := by omega
      have HE3 := Lib.hid he3
      have HL3 := Lib.hid hlen3
      have HB3 := Lib.hid hb3
      have HLL := Lib.hid hL3
      clear i3 hm3 hl3 hf3 he3 hlen3 hb3 hL3
      have CC := Lib.hid (iInts l 100 n HN.out (by omega) A c w6 (HA.out.below B6.out))
      rw [HT3.out] at CC
      go_wp2_with fail
      refine CC.out.mono ?_
      rintro e w7 ⟨A7, q7, c7, D7, k7, d7, rfl, hq7, hk7, rl7, rb7, bb⟩
      have B7 := Lib.hid (belowThen B6.out bb)
      clear CC
      dsimp only at hq7 hk7 rl7 rb7
      have RI := Lib.hid rl7
      have RU := Lib.hid rb7
      clear bb rl7 rb7
      have CC := Lib.hid (iAppIs [] L 0 q7 rfl hq7.out (by omega) (by have := HLL.out; have := hq7.out; omega) HB3.out none A7 0 c7 w7 Rb.nil RI.out)
      go_wp2_with fail
      refine CC.out.mono ?_
      rintro e w8 ⟨A8, q8, c8, rfl, hq8, ob8, bb⟩
      have B8 := Lib.hid (belowThen B7.out bb)
      clear CC
      have RU2 := Lib.hid (RU.out.below bb)
      have OB := Lib.hid (ob8.mono (base' := w.heap.size) B7.out.size)
      clear ob8 bb RU RI
      have hz9 := B8.out.size
      go_wp2_with (at_builtin; refine appBg _ (by rfl) (.tmp 58) (.tmp 59) rfl w.heap.size _ (appIs [] L) rfl OB.out D7 k7 d7 (R3) rfl hk7.out.symm RU2.out (by have := HL3.out; omega) hz9 ?_; intro v9 w9 o9 b9)
      rw [HE3.out] at o9
      have B9 := Lib.hid (B8.out.trans b9)
      obtain ⟨A9, c9, rfl, rb9, _⟩ := o9.rd
      rw [HN.out]
      have R9 := Lib.hid rb9
      clear o9 b9 rb9
      clear OB RU2
      have CC := Lib.hid (rSame l l true (eqLy rfl) n n HN.out HN.out A9 A c9 c w9 R9.out (HA.out.below B9.out))
      go_wp2_with fail
      refine CC.out.mono ?_
      rintro e w' ⟨rfl, rfl⟩
      clear CC
      have i4 := I4.out
      obtain ⟨S, hS⟩ : ∃ S, strT l 200 = S := ⟨_, rfl⟩
      obtain ⟨R4, hR4⟩ : ∃ R4, resT l 200 = R4 := ⟨_, rfl⟩
      obtain ⟨E4, hE4⟩ : ∃ E4, errT l 200 = E4 := ⟨_, rfl⟩
      rw [hS, hR4, hE4] at i4
      have HS4 := Lib.hid hS
      have HR4 := Lib.hid hR4
      have HE4 := Lib.hid hE4
      clear hS hR4 hE4
      by_cases h4 : E4 = 0
      · subst h4
        have he4 := i4 rfl
        have hlen4 : (encL S.length ++ S).length + R4.length = n := by rw [← HN.out]; conv => rhs; rw [← he4, List.length_append]
        have hs4 : S.length ≤ 200 := by rw [List.length_append] at hlen4; omega
        have HEE := Lib.hid he4
        have HL4 := Lib.hid hlen4
        have HSS := Lib.hid hs4
        clear i4 he4 hlen4 hs4
        have CC := Lib.hid (iStr l 200 n HN.out (by omega) A c w9 (HA.out.below B9.out))
        rw [HS4.out, HR4.out, HE4.out] at CC
        go_wp2_with fail
        refine CC.out.mono ?_
        rintro e w10 ⟨D10, k10, d10, rfl, hk10, rb10, bb⟩
        have B10 := Lib.hid (belowThen B9.out bb)
        clear CC
        have RU := Lib.hid rb10
        clear bb rb10
        have CC := Lib.hid (iAppS [] 0 rfl (by omega) ⟨S.toArray⟩ (by have := HSS.out; simpa [ByteArray.size] using (show S.length ≤ 100000 by omega)) none 0 w10 Rb.nil)
        rw [List.nil_append, strSize S] at CC
        go_wp2_with fail
        refine CC.out.mono ?_
        rintro e w11 ⟨A11, q11, c11, rfl, hq11, ob11, bb⟩
        have B11 := Lib.hid (belowThen B10.out bb)
        clear CC
        have RU2 := Lib.hid (RU.out.below bb)
        have OB := Lib.hid (ob11.mono (base' := w.heap.size) B10.out.size)
        clear ob11 bb RU
        have hz12 := B11.out.size
        go_wp2_with (at_builtin; refine appBg _ (by rfl) (.tmp 75) (.tmp 76) rfl w.heap.size _ (encL S.length ++ S) rfl OB.out D10 k10 d10 (R4) rfl hk10.out.symm RU2.out (by have := HL4.out; omega) hz12 ?_; intro v12 w12 o12 b12)
        rw [HEE.out] at o12
        have B12 := Lib.hid (B11.out.trans b12)
        obtain ⟨A12, c12, rfl, rb12, _⟩ := o12.rd
        rw [HN.out]
        have R12 := Lib.hid rb12
        clear o12 b12 rb12
        clear OB RU2
        have CC := Lib.hid (rSame l l true (eqLy rfl) n n HN.out HN.out A12 A c12 c w12 R12.out (HA.out.below B12.out))
        go_wp2_with fail
        refine CC.out.mono ?_
        rintro e w' ⟨rfl, rfl⟩
        clear CC
        have i5 := I5.out
        obtain ⟨P, hP⟩ : ∃ P, payO l = P := ⟨_, rfl⟩
        obtain ⟨R5, hR5⟩ : ∃ R5, aftO l = R5 := ⟨_, rfl⟩
        obtain ⟨E5, hE5⟩ : ∃ E5, errO l = E5 := ⟨_, rfl⟩
        rw [hP, hR5, hE5] at i5
        have HP5 := Lib.hid hP
        have HR5 := Lib.hid hR5
        have HE5 := Lib.hid hE5
        clear hP hR5 hE5
        by_cases h5 : E5 = 0
        · subst h5
          obtain ⟨he5, hp5⟩ := i5 rfl
          have hlen5 : (sealL P).length + R5.length = n := by rw [← HN.out]; conv => rhs; rw [← he5, List.length_append]
          have hp5 : P.length ≤ 200 := by have := sealLen P; omega
          have HO5 := Lib.hid he5
          have HL5 := Lib.hid hlen5
          have HPP := Lib.hid hp5
          clear i5 he5 hlen5 hp5
          have CC := Lib.hid (iOpen l n HN.out (by omega) A c w12 (HA.out.below B12.out))
          rw [HP5.out, HR5.out, HE5.out] at CC
          go_wp2_with fail
          refine CC.out.mono ?_
          rintro e w13 ⟨A13, q13, c13, D13, k13, d13, rfl, hq13, hk13, rl13, rb13, bb⟩
          have B13 := Lib.hid (belowThen B12.out bb)
          clear CC
          have RI := Lib.hid rl13
          have RU := Lib.hid rb13
          clear bb rl13 rb13
          have CC := Lib.hid (iSeal P q13 hq13.out (by have := HPP.out; have := hq13.out; omega) A13 c13 w13 RI.out)
          go_wp2_with fail
          refine CC.out.mono ?_
          rintro e w14 ⟨A14, q14, c14, rfl, hq14, ob14, bb⟩
          have B14 := Lib.hid (belowThen B13.out bb)
          clear CC
          have RU2 := Lib.hid (RU.out.below bb)
          have OB := Lib.hid (ob14.mono (base' := w.heap.size) B13.out.size)
          clear ob14 bb RU RI
          have hz15 := B14.out.size
          go_wp2_with (at_builtin; refine appBg _ (by rfl) (.tmp 92) (.tmp 93) rfl w.heap.size _ (sealL P) rfl OB.out D13 k13 d13 (R5) rfl hk13.out.symm RU2.out (by have := HL5.out; omega) hz15 ?_; intro v15 w15 o15 b15)
          rw [HO5.out] at o15
          have B15 := Lib.hid (B14.out.trans b15)
          obtain ⟨A15, c15, rfl, rb15, _⟩ := o15.rd
          rw [HN.out]
          have R15 := Lib.hid rb15
          clear o15 b15 rb15
          clear OB RU2
          have CC := Lib.hid (rSame l l true (eqLy rfl) n n HN.out HN.out A15 A c15 c w15 R15.out (HA.out.below B15.out))
          go_wp2_with fail
          refine CC.out.mono ?_
          rintro e w' ⟨rfl, rfl⟩
          clear CC
          have CC := Lib.hid (livesOk w15)
          go_wp2_with fail
          refine CC.out.mono ?_
          rintro e wL ⟨rfl, bL⟩
          have BL := belowThen B15.out bL
          clear bL
          go_wp2
          go_ret
          exact ⟨rfl, BL⟩
        · have hE5 : ((E5 : Int) == 0) = false := by simp; omega
          clear i5 h5
          have CC := Lib.hid (iOpen l n HN.out (by omega) A c w12 (HA.out.below B12.out))
          rw [HP5.out, HR5.out, HE5.out] at CC
          go_wp2_with fail
          refine CC.out.mono ?_
          rintro e w13 ⟨A13, q13, c13, D13, k13, d13, rfl, hq13, hk13, rl13, rb13, bb⟩
          have B13 := Lib.hid (belowThen B12.out bb)
          clear CC
          clear bb rl13 rb13
          have CC := Lib.hid (livesOk w13)
          go_wp2_with fail
          refine CC.out.mono ?_
          rintro e wL ⟨rfl, bL⟩
          have BL := belowThen B13.out bL
          clear bL
          go_wp2
          go_ret
          exact ⟨rfl, BL⟩
      · have hE4 : ((E4 : Int) == 0) = false := by simp; omega
        clear i4 h4
        have CC := Lib.hid (iStr l 200 n HN.out (by omega) A c w9 (HA.out.below B9.out))
        rw [HS4.out, HR4.out, HE4.out] at CC
        go_wp2_with fail
        refine CC.out.mono ?_
        rintro e w10 ⟨D10, k10, d10, rfl, hk10, rb10, bb⟩
        have B10 := Lib.hid (belowThen B9.out bb)
        clear CC
        clear bb rb10
        have i5 := I5.out
        obtain ⟨P, hP⟩ : ∃ P, payO l = P := ⟨_, rfl⟩
        obtain ⟨R5, hR5⟩ : ∃ R5, aftO l = R5 := ⟨_, rfl⟩
        obtain ⟨E5, hE5⟩ : ∃ E5, errO l = E5 := ⟨_, rfl⟩
        rw [hP, hR5, hE5] at i5
        have HP5 := Lib.hid hP
        have HR5 := Lib.hid hR5
        have HE5 := Lib.hid hE5
        clear hP hR5 hE5
        by_cases h5 : E5 = 0
        · subst h5
          obtain ⟨he5, hp5⟩ := i5 rfl
          have hlen5 : (sealL P).length + R5.length = n := by rw [← HN.out]; conv => rhs; rw [← he5, List.length_append]
          have hp5 : P.length ≤ 200 := by have := sealLen P; omega
          have HO5 := Lib.hid he5
          have HL5 := Lib.hid hlen5
          have HPP := Lib.hid hp5
          clear i5 he5 hlen5 hp5
          have CC := Lib.hid (iOpen l n HN.out (by omega) A c w10 (HA.out.below B10.out))
          rw [HP5.out, HR5.out, HE5.out] at CC
          go_wp2_with fail
          refine CC.out.mono ?_
          rintro e w11 ⟨A11, q11, c11, D11, k11, d11, rfl, hq11, hk11, rl11, rb11, bb⟩
          have B11 := Lib.hid (belowThen B10.out bb)
          clear CC
          have RI := Lib.hid rl11
          have RU := Lib.hid rb11
          clear bb rl11 rb11
          have CC := Lib.hid (iSeal P q11 hq11.out (by have := HPP.out; have := hq11.out; omega) A11 c11 w11 RI.out)
          go_wp2_with fail
          refine CC.out.mono ?_
          rintro e w12 ⟨A12, q12, c12, rfl, hq12, ob12, bb⟩
          have B12 := Lib.hid (belowThen B11.out bb)
          clear CC
          have RU2 := Lib.hid (RU.out.below bb)
          have OB := Lib.hid (ob12.mono (base' := w.heap.size) B11.out.size)
          clear ob12 bb RU RI
          have hz13 := B12.out.size
          go_wp2_with (at_builtin; refine appBg _ (by rfl) (.tmp 92) (.tmp 93) rfl w.heap.size _ (sealL P) rfl OB.out D11 k11 d11 (R5) rfl hk11.out.symm RU2.out (by have := HL5.out; omega) hz13 ?_; intro v13 w13 o13 b13)
          rw [HO5.out] at o13
          have B13 := Lib.hid (B12.out.trans b13)
          obtain ⟨A13, c13, rfl, rb13, _⟩ := o13.rd
          rw [HN.out]
          have R13 := Lib.hid rb13
          clear o13 b13 rb13
          clear OB RU2
          have CC := Lib.hid (rSame l l true (eqLy rfl) n n HN.out HN.out A13 A c13 c w13 R13.out (HA.out.below B13.out))
          go_wp2_with fail
          refine CC.out.mono ?_
          rintro e w' ⟨rfl, rfl⟩
          clear CC
          have CC := Lib.hid (livesOk w13)
          go_wp2_with fail
          refine CC.out.mono ?_
          rintro e wL ⟨rfl, bL⟩
          have BL := belowThen B13.out bL
          clear bL
          go_wp2
          go_ret
          exact ⟨rfl, BL⟩
        · have hE5 : ((E5 : Int) == 0) = false := by simp; omega
          clear i5 h5
          have CC := Lib.hid (iOpen l n HN.out (by omega) A c w10 (HA.out.below B10.out))
          rw [HP5.out, HR5.out, HE5.out] at CC
          go_wp2_with fail
          refine CC.out.mono ?_
          rintro e w11 ⟨A11, q11, c11, D11, k11, d11, rfl, hq11, hk11, rl11, rb11, bb⟩
          have B11 := Lib.hid (belowThen B10.out bb)
          clear CC
          clear bb rl11 rb11
          have CC := Lib.hid (livesOk w11)
          go_wp2_with fail
          refine CC.out.mono ?_
          rintro e wL ⟨rfl, bL⟩
          have BL := belowThen B11.out bL
          clear bL
          go_wp2
          go_ret
          exact ⟨rfl, BL⟩
    · have hE3 : ((E3 : Int) == 0) = false := by simp; omega
      clear i3 h3
      have CC := Lib.hid (iInts l 100 n HN.out (by omega) A c w6 (HA.out.below B6.out))
      rw [HT3.out] at CC
      go_wp2_with fail
      refine CC.out.mono ?_
      rintro e w7 ⟨A7, q7, c7, D7, k7, d7, rfl, hq7, hk7, rl7, rb7, bb⟩
      have B7 := Lib.hid (belowThen B6.out bb)
      clear CC
      dsimp only at hq7 hk7 rl7 rb7
      clear bb rl7 rb7
      have i4 := I4.out
      obtain ⟨S, hS⟩ : ∃ S, strT l 200 = S := ⟨_, rfl⟩
      obtain ⟨R4, hR4⟩ : ∃ R4, resT l 200 = R4 := ⟨_, rfl⟩
      obtain ⟨E4, hE4⟩ : ∃ E4, errT l 200 = E4 := ⟨_, rfl⟩
      rw [hS, hR4, hE4] at i4
      have HS4 := Lib.hid hS
      have HR4 := Lib.hid hR4
      have HE4 := Lib.hid hE4
      clear hS hR4 hE4
      by_cases h4 : E4 = 0
      · subst h4
        have he4 := i4 rfl
        have hlen4 : (encL S.length ++ S).length + R4.length = n := by rw [← HN.out]; conv => rhs; rw [← he4, List.length_append]
        have hs4 : S.length ≤ 200 := by rw [List.length_append] at hlen4; omega
        have HEE := Lib.hid he4
        have HL4 := Lib.hid hlen4
        have HSS := Lib.hid hs4
        clear i4 he4 hlen4 hs4
        have CC := Lib.hid (iStr l 200 n HN.out (by omega) A c w7 (HA.out.below B7.out))
        rw [HS4.out, HR4.out, HE4.out] at CC
        go_wp2_with fail
        refine CC.out.mono ?_
        rintro e w8 ⟨D8, k8, d8, rfl, hk8, rb8, bb⟩
        have B8 := Lib.hid (belowThen B7.out bb)
        clear CC
        have RU := Lib.hid rb8
        clear bb rb8
        have CC := Lib.hid (iAppS [] 0 rfl (by omega) ⟨S.toArray⟩ (by have := HSS.out; simpa [ByteArray.size] using (show S.length ≤ 100000 by omega)) none 0 w8 Rb.nil)
        rw [List.nil_append, strSize S] at CC
        go_wp2_with fail
        refine CC.out.mono ?_
        rintro e w9 ⟨A9, q9, c9, rfl, hq9, ob9, bb⟩
        have B9 := Lib.hid (belowThen B8.out bb)
        clear CC
        have RU2 := Lib.hid (RU.out.below bb)
        have OB := Lib.hid (ob9.mono (base' := w.heap.size) B8.out.size)
        clear ob9 bb RU
        have hz10 := B9.out.size
        go_wp2_with (at_builtin; refine appBg _ (by rfl) (.tmp 75) (.tmp 76) rfl w.heap.size _ (encL S.length ++ S) rfl OB.out D8 k8 d8 (R4) rfl hk8.out.symm RU2.out (by have := HL4.out; omega) hz10 ?_; intro v10 w10 o10 b10)
        rw [HEE.out] at o10
        have B10 := Lib.hid (B9.out.trans b10)
        obtain ⟨A10, c10, rfl, rb10, _⟩ := o10.rd
        rw [HN.out]
        have R10 := Lib.hid rb10
        clear o10 b10 rb10
        clear OB RU2
        have CC := Lib.hid (rSame l l true (eqLy rfl) n n HN.out HN.out A10 A c10 c w10 R10.out (HA.out.below B10.out))
        go_wp2_with fail
        refine CC.out.mono ?_
        rintro e w' ⟨rfl, rfl⟩
        clear CC
        have i5 := I5.out
        obtain ⟨P, hP⟩ : ∃ P, payO l = P := ⟨_, rfl⟩
        obtain ⟨R5, hR5⟩ : ∃ R5, aftO l = R5 := ⟨_, rfl⟩
        obtain ⟨E5, hE5⟩ : ∃ E5, errO l = E5 := ⟨_, rfl⟩
        rw [hP, hR5, hE5] at i5
        have HP5 := Lib.hid hP
        have HR5 := Lib.hid hR5
        have HE5 := Lib.hid hE5
        clear hP hR5 hE5
        by_cases h5 : E5 = 0
        · subst h5
          obtain ⟨he5, hp5⟩ := i5 rfl
          have hlen5 : (sealL P).length + R5.length = n := by rw [← HN.out]; conv => rhs; rw [← he5, List.length_append]
          have hp5 : P.length ≤ 200 := by have := sealLen P; omega
          have HO5 := Lib.hid he5
          have HL5 := Lib.hid hlen5
          have HPP := Lib.hid hp5
          clear i5 he5 hlen5 hp5
          have CC := Lib.hid (iOpen l n HN.out (by omega) A c w10 (HA.out.below B10.out))
          rw [HP5.out, HR5.out, HE5.out] at CC
          go_wp2_with fail
          refine CC.out.mono ?_
          rintro e w11 ⟨A11, q11, c11, D11, k11, d11, rfl, hq11, hk11, rl11, rb11, bb⟩
          have B11 := Lib.hid (belowThen B10.out bb)
          clear CC
          have RI := Lib.hid rl11
          have RU := Lib.hid rb11
          clear bb rl11 rb11
          have CC := Lib.hid (iSeal P q11 hq11.out (by have := HPP.out; have := hq11.out; omega) A11 c11 w11 RI.out)
          go_wp2_with fail
          refine CC.out.mono ?_
          rintro e w12 ⟨A12, q12, c12, rfl, hq12, ob12, bb⟩
          have B12 := Lib.hid (belowThen B11.out bb)
          clear CC
          have RU2 := Lib.hid (RU.out.below bb)
          have OB := Lib.hid (ob12.mono (base' := w.heap.size) B11.out.size)
          clear ob12 bb RU RI
          have hz13 := B12.out.size
          go_wp2_with (at_builtin; refine appBg _ (by rfl) (.tmp 92) (.tmp 93) rfl w.heap.size _ (sealL P) rfl OB.out D11 k11 d11 (R5) rfl hk11.out.symm RU2.out (by have := HL5.out; omega) hz13 ?_; intro v13 w13 o13 b13)
          rw [HO5.out] at o13
          have B13 := Lib.hid (B12.out.trans b13)
          obtain ⟨A13, c13, rfl, rb13, _⟩ := o13.rd
          rw [HN.out]
          have R13 := Lib.hid rb13
          clear o13 b13 rb13
          clear OB RU2
          have CC := Lib.hid (rSame l l true (eqLy rfl) n n HN.out HN.out A13 A c13 c w13 R13.out (HA.out.below B13.out))
          go_wp2_with fail
          refine CC.out.mono ?_
          rintro e w' ⟨rfl, rfl⟩
          clear CC
          have CC := Lib.hid (livesOk w13)
          go_wp2_with fail
          refine CC.out.mono ?_
          rintro e wL ⟨rfl, bL⟩
          have BL := belowThen B13.out bL
          clear bL
          go_wp2
          go_ret
          exact ⟨rfl, BL⟩
        · have hE5 : ((E5 : Int) == 0) = false := by simp; omega
          clear i5 h5
          have CC := Lib.hid (iOpen l n HN.out (by omega) A c w10 (HA.out.below B10.out))
          rw [HP5.out, HR5.out, HE5.out] at CC
          go_wp2_with fail
          refine CC.out.mono ?_
          rintro e w11 ⟨A11, q11, c11, D11, k11, d11, rfl, hq11, hk11, rl11, rb11, bb⟩
          have B11 := Lib.hid (belowThen B10.out bb)
          clear CC
          clear bb rl11 rb11
          have CC := Lib.hid (livesOk w11)
          go_wp2_with fail
          refine CC.out.mono ?_
          rintro e wL ⟨rfl, bL⟩
          have BL := belowThen B11.out bL
          clear bL
          go_wp2
          go_ret
          exact ⟨rfl, BL⟩
      · have hE4 : ((E4 : Int) == 0) = false := by simp; omega
        clear i4 h4
        have CC := Lib.hid (iStr l 200 n HN.out (by omega) A c w7 (HA.out.below B7.out))
        rw [HS4.out, HR4.out, HE4.out] at CC
        go_wp2_with fail
        refine CC.out.mono ?_
        rintro e w8 ⟨D8, k8, d8, rfl, hk8, rb8, bb⟩
        have B8 := Lib.hid (belowThen B7.out bb)
        clear CC
        clear bb rb8
        have i5 := I5.out
        obtain ⟨P, hP⟩ : ∃ P, payO l = P := ⟨_, rfl⟩
        obtain ⟨R5, hR5⟩ : ∃ R5, aftO l = R5 := ⟨_, rfl⟩
        obtain ⟨E5, hE5⟩ : ∃ E5, errO l = E5 := ⟨_, rfl⟩
        rw [hP, hR5, hE5] at i5
        have HP5 := Lib.hid hP
        have HR5 := Lib.hid hR5
        have HE5 := Lib.hid hE5
        clear hP hR5 hE5
        by_cases h5 : E5 = 0
        · subst h5
          obtain ⟨he5, hp5⟩ := i5 rfl
          have hlen5 : (sealL P).length + R5.length = n := by rw [← HN.out]; conv => rhs; rw [← he5, List.length_append]
          have hp5 : P.length ≤ 200 := by have := sealLen P; omega
          have HO5 := Lib.hid he5
          have HL5 := Lib.hid hlen5
          have HPP := Lib.hid hp5
          clear i5 he5 hlen5 hp5
          have CC := Lib.hid (iOpen l n HN.out (by omega) A c w8 (HA.out.below B8.out))
          rw [HP5.out, HR5.out, HE5.out] at CC
          go_wp2_with fail
          refine CC.out.mono ?_
          rintro e w9 ⟨A9, q9, c9, D9, k9, d9, rfl, hq9, hk9, rl9, rb9, bb⟩
          have B9 := Lib.hid (belowThen B8.out bb)
          clear CC
          have RI := Lib.hid rl9
          have RU := Lib.hid rb9
          clear bb rl9 rb9
          have CC := Lib.hid (iSeal P q9 hq9.out (by have := HPP.out; have := hq9.out; omega) A9 c9 w9 RI.out)
          go_wp2_with fail
          refine CC.out.mono ?_
          rintro e w10 ⟨A10, q10, c10, rfl, hq10, ob10, bb⟩
          have B10 := Lib.hid (belowThen B9.out bb)
          clear CC
          have RU2 := Lib.hid (RU.out.below bb)
          have OB := Lib.hid (ob10.mono (base' := w.heap.size) B9.out.size)
          clear ob10 bb RU RI
          have hz11 := B10.out.size
          go_wp2_with (at_builtin; refine appBg _ (by rfl) (.tmp 92) (.tmp 93) rfl w.heap.size _ (sealL P) rfl OB.out D9 k9 d9 (R5) rfl hk9.out.symm RU2.out (by have := HL5.out; omega) hz11 ?_; intro v11 w11 o11 b11)
          rw [HO5.out] at o11
          have B11 := Lib.hid (B10.out.trans b11)
          obtain ⟨A11, c11, rfl, rb11, _⟩ := o11.rd
          rw [HN.out]
          have R11 := Lib.hid rb11
          clear o11 b11 rb11
          clear OB RU2
          have CC := Lib.hid (rSame l l true (eqLy rfl) n n HN.out HN.out A11 A c11 c w11 R11.out (HA.out.below B11.out))
          go_wp2_with fail
          refine CC.out.mono ?_
          rintro e w' ⟨rfl, rfl⟩
          clear CC
          have CC := Lib.hid (livesOk w11)
          go_wp2_with fail
          refine CC.out.mono ?_
          rintro e wL ⟨rfl, bL⟩
          have BL := belowThen B11.out bL
          clear bL
          go_wp2
          go_ret
          exact ⟨rfl, BL⟩
        · have hE5 : ((E5 : Int) == 0) = false := by simp; omega
          clear i5 h5
          have CC := Lib.hid (iOpen l n HN.out (by omega) A c w8 (HA.out.below B8.out))
          rw [HP5.out, HR5.out, HE5.out] at CC
          go_wp2_with fail
          refine CC.out.mono ?_
          rintro e w9 ⟨A9, q9, c9, D9, k9, d9, rfl, hq9, hk9, rl9, rb9, bb⟩
          have B9 := Lib.hid (belowThen B8.out bb)
          clear CC
          clear bb rl9 rb9
          have CC := Lib.hid (livesOk w9)
          go_wp2_with fail
          refine CC.out.mono ?_
          rintro e wL ⟨rfl, bL⟩
          have BL := belowThen B9.out bL
          clear bL
          go_wp2
          go_ret
          exact ⟨rfl, BL⟩
  · have hv := valErr hu
    have e3 : intsD l 100 = ([], [], errU l) := by unfold intsD; rw [errDNo hu, if_neg hu]
    have e4 : errT l 200 = errU l := by rw [errTD (by rw [errDNo hu]; exact hu), errDNo hu]
    have e5 := errOU hu
    obtain ⟨E, hE⟩ : ∃ E, errU l = E := ⟨_, rfl⟩
    rw [hE] at e3 e4 e5 hu
    have hE0 : ((E : Int) == 0) = false := by simp; omega
    have H3 := Lib.hid e3
    have H4 := Lib.hid e4
    have H5 := Lib.hid e5
    have HE := Lib.hid hE
    clear e3 e4 e5 hE hv hu
    go_enter Try.func7, Try.ntmps7
    have CC := Lib.hid (iUint l n HN.out (by omega) A c w HA.out)
    rw [HE.out] at CC
    go_wp2_with fail
    refine CC.out.mono ?_
    rintro e w1 ⟨A1, q1, c1, rfl, hq1, rb1, bb⟩
    have B1 := Lib.hid (bb)
    clear CC
    clear bb rb1
    have CC := Lib.hid (iInt l n HN.out (by omega) A c w1 (HA.out.below B1.out))
    rw [HE.out] at CC
    go_wp2_with fail
    refine CC.out.mono ?_
    rintro e w2 ⟨A2, q2, c2, rfl, hq2, rb2, bb⟩
    have B2 := Lib.hid (belowThen B1.out bb)
    clear CC
    clear bb rb2
    have CC := Lib.hid (iInts l 100 n HN.out (by omega) A c w2 (HA.out.below B2.out))
    rw [H3.out] at CC
    go_wp2_with fail
    refine CC.out.mono ?_
    rintro e w3 ⟨A3, q3, c3, D3, k3, d3, rfl, hq3, hk3, rl3, rb3, bb⟩
    have B3 := Lib.hid (belowThen B2.out bb)
    clear CC
    clear bb rl3 rb3
    have CC := Lib.hid (iStr l 200 n HN.out (by omega) A c w3 (HA.out.below B3.out))
    rw [H4.out] at CC
    go_wp2_with fail
    refine CC.out.mono ?_
    rintro e w4 ⟨D4, k4, d4, rfl, hk4, rb4, bb⟩
    have B4 := Lib.hid (belowThen B3.out bb)
    clear CC
    clear bb rb4
    have CC := Lib.hid (iOpen l n HN.out (by omega) A c w4 (HA.out.below B4.out))
    rw [H5.out] at CC
    go_wp2_with fail
    refine CC.out.mono ?_
    rintro e w5 ⟨A5, q5, c5, D5, k5, d5, rfl, hq5, hk5, rl5, rb5, bb⟩
    have B5 := Lib.hid (belowThen B4.out bb)
    clear CC
    clear bb rl5 rb5
    have CC := Lib.hid (livesOk w5)
    go_wp2_with fail
    refine CC.out.mono ?_
    rintro e wL ⟨rfl, bL⟩
    have BL := belowThen B5.out bL
    clear bL
    go_wp2
    go_ret
    exact ⟨rfl, BL⟩
end Go.Proofs.Ytcbipokohjajoaa
