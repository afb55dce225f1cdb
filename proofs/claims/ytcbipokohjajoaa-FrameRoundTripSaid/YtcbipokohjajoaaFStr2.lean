/-
  The contract of the reference's String.
-/
import Derived.Test.YtcbipokohjajoaaFStr
namespace Go.Proofs.Ytcbipokohjajoaa
open Go.RowKit

theorem cutIf (a : Int) : (if a < 0 then 0 else a) = max a 0 := by split <;> omega
set_option maxRecDepth 100000 in
set_option maxHeartbeats 1000000 in
theorem rStr (l : List UInt8) (most : Int) (n : Nat) (hn : l.length = n) (hs : n ≤ 300000) (A : Option Addr) (c : Nat) (w : World) (ha : Rb w A c l) :
    Calls Try.prog 23 #[.slice A n c, .int .i64 most] w (GivesS (strT l most) (resT l most) (errT l most) w) := by
  have HD := Lib.hid (rUint l n hn hs A c w ha); clear ha
  have hrl := resLenLe l
  rw [hn] at hrl
  clear hn
  by_cases h : errU l = 0
  · have hvl := valLeU l
    by_cases hb : max most 0 < (valU l : Int)
    · have h3 := errTD (show errD l most ≠ 0 by rw [errDBig h hb]; decide)
      rw [errDBig h hb] at h3
      have h4 := strTNo (l := l) (most := most) (by rw [h3]; decide)
      rw [h3, h4.1, h4.2]
      obtain ⟨V, hV⟩ : ∃ V, valU l = V := ⟨_, rfl⟩
      rw [h, hV] at HD
      rw [hV] at hb hvl
      clear h hV h3 h4
      rcases Int.lt_or_le most 0 with hm | hm
      · have hx : (0 : Int) < V := by omega
        clear hb
        go_enter Try.func23, Try.ntmps23
        go_wp2_with fail
        refine HD.out.mono ?_
        rintro e w1 ⟨B, q, d, rfl, hq, r1, hf, b1⟩
        go_wp2
        go_ret3
        exact ⟨none, 0, 0, rfl, Lib.hid rfl, Rb.nil, b1⟩
      · have hx : most < (V : Int) := by omega
        clear hb
        go_enter Try.func23, Try.ntmps23
        go_wp2_with fail
        refine HD.out.mono ?_
        rintro e w1 ⟨B, q, d, rfl, hq, r1, hf, b1⟩
        go_wp2
        go_ret3
        exact ⟨none, 0, 0, rfl, Lib.hid rfl, Rb.nil, b1⟩
    · have hdo := errDOk (most := most) h hb
      obtain ⟨V, hV⟩ : ∃ V, valU l = V := ⟨_, rfl⟩
      have hb' : ¬ (if most < 0 then 0 else most) < (V : Int) := by rw [cutIf, ← hV]; exact hb
      by_cases h2 : (resU l).length < valU l
      · have h3 := errTS hdo h2
        have h4 := strTNo (l := l) (most := most) (by rw [h3]; decide)
        rw [h3, h4.1, h4.2]
        rw [h, hV] at HD
        rw [hV] at h2 hvl
        have H2 := Lib.hid h2
        clear h h2 h3 h4 hV hb hdo
        go_enter Try.func23, Try.ntmps23
        go_wp2_with fail
        refine HD.out.mono ?_
        rintro e w1 ⟨B, q, d, rfl, hq, r1, hf, b1⟩
        have hqv : q < V := by rw [← hq.out]; exact H2.out
        go_wp2
        all_goals go_ret3
        all_goals exact ⟨none, 0, 0, rfl, Lib.hid rfl, Rb.nil, b1⟩
      · have h3 := errTO hdo h2
        have h4 := strTOk (l := l) (most := most) h3
        rw [h3, h4.1, h4.2]
        obtain ⟨R, hR⟩ : ∃ R, resU l = R := ⟨_, rfl⟩
        rw [h, hV, hR] at HD
        rw [hV] at hvl
        rw [hV, hR] at h2 ⊢
        rw [hR] at hrl
        have H2 := Lib.hid h2
        clear h h2 h3 h4 hV hb hdo hR
        go_enter Try.func23, Try.ntmps23
        go_wp2_with fail
        refine HD.out.mono ?_
        rintro e w1 ⟨B, q, d, rfl, hq, r1, hf, b1⟩
        have hqv : V ≤ q := by have := H2.out; have := hq.out; omega
        have hqd := r1.le
        have hdm := r1.max
        unfold maxLen at hdm
        rw [hq.out] at hqd hrl
        have rT := r1.take V (by have := hq.out; omega)
        have rD := tailRb r1 (k := V) (by have := hq.out; omega)
        have hcut := cutB B q d V hqv V rfl
        have hcut2 := cutH B q d V (by omega) V rfl
        obtain ⟨T, hT⟩ : ∃ T, tailA B d V = T := ⟨_, rfl⟩
        rw [hT] at rD hcut
        have hTl : (R.take V).length = V := by rw [List.length_take]; have := hq.out; omega
        have hDl : (R.drop V).length = q - V := by rw [List.length_drop, hq.out]
        obtain ⟨S1, hS1⟩ : ∃ S1, R.take V = S1 := ⟨_, rfl⟩
        obtain ⟨S2, hS2⟩ : ∃ S2, R.drop V = S2 := ⟨_, rfl⟩
        have HSS := Lib.hid (And.intro hS1 hS2)
        rw [hS1] at rT hTl
        rw [hS2] at rD hDl
        have hc1 := convB rT.drew hTl
        have hc2 : ∀ o : Obj, (convert 22 9 (.slice B V d)).run Try.prog (w1.alloc o).drew = .ok (.string ⟨S1.toArray⟩) (w1.alloc o).drew := fun o => convB (rT.alloc o).drew hTl
        have RT := Lib.hid rT
        have RD := Lib.hid rD
        have HTL := Lib.hid hTl
        have HDL := Lib.hid hDl
        have B1 := Lib.hid b1
        clear hT hS1 hS2 rT rD hTl hDl r1 HD b1
        go_wp2
        all_goals
          go_region_law (go_loud (refine stepB _ (by rfl) (.tmp 31) (.tmp 34) (by rfl) w1.heap.size _ [] (by rfl) ((OwnB.made w1 w1.heap.size (Nat.le_refl _)).drew) T (q - V) (d - V) S2 (by rfl) HDL.out.symm ((RD.out.alloc _).drew) (by have := HDL.out; simp; omega) (by simp) ?_; intro v2 w2 o2 b2; have b12 := ((belowAlloc w1 (.cells #[] 5)).drew).trans b2; have hc3 := convB (RT.out.below b12) HTL.out))
        all_goals
          go_wp2
          go_ret3
          rw [List.nil_append] at o2
          obtain ⟨D, j, rfl, r2, _⟩ := o2.rd
          first
            | exact ⟨D, _, j, rfl, Lib.hid rfl, r2, belowThen B1.out b12⟩
            | (rw [HSS.out.1, HSS.out.2]; exact ⟨D, _, j, rfl, Lib.hid rfl, r2, belowThen B1.out b12⟩)
  · have h3 := errTD (show errD l most ≠ 0 by rw [errDNo h]; exact h)
    rw [errDNo h] at h3
    have h4 := strTNo (l := l) (most := most) (by rw [h3]; exact h)
    rw [h3, h4.1, h4.2]
    have hv := valErr h
    rw [hv.1, hv.2] at HD
    obtain ⟨E, hE⟩ : ∃ E, errU l = E := ⟨_, rfl⟩
    rw [hE] at HD h ⊢
    have hE0 : ((E : Int) != 0) = true := by simp; omega
    clear h3 h4 hE h hv
    go_enter Try.func23, Try.ntmps23
    go_wp2_with fail
    refine HD.out.mono ?_
    rintro e w1 ⟨B, q, d, rfl, hq, r1, hf, b1⟩
    go_wp2
    go_ret3
    exact ⟨none, 0, 0, rfl, Lib.hid rfl, Rb.nil, b1⟩
end Go.Proofs.Ytcbipokohjajoaa
