/-
  The law AwaitRewrites returns true for every program, where the tables are laid, given what the specification's Condition gives.
-/
import Derived.Test.YtkanamdfjegcbaaDoorFAwL
import Derived.Test.YtkanamdfjegcbaaDoorFAwRr
namespace Go.Proofs.YtkanamdfjegcbaaDoor
open Go Go.RowKit

set_option maxRecDepth 100000 in
set_option maxHeartbeats 8000000 in
theorem lawRewrites (HCO : CondOk) {a : PgA} {p : Prg} (w : World) (hP : PgW w a p) (hWf : p.Wf) (hL : Laid7 w) : Calls Tryd.prog 7 #[a.val] w (LawOkA w) := by
  obtain ⟨W, hW⟩ : ∃ W, w.alloc (.cells a.fs 54) = W := ⟨_, rfl⟩
  have hbW : Below w.heap.size w W := by rw [← hW]; exact belowAlloc w _
  have hk1 : PBox W w.heap.size a := by rw [← hW]; exact Blk.new w _ _
  have HBW := Lib.hid hbW
  have HW := Lib.hid hW
  have HK := Lib.hid (fun X (hX : Below W.heap.size W X) => (hk1.below hX).facts)
  have hpW := hP.below hbW
  have hLW := hL.below hbW
  have H1 := Lib.hid (rSmall W hpW)
  have HLV := Lib.hid (fun X (hX : Below W.heap.size W X) => aLives X (hLW.below hX))
  cases hsm : p.small
  · rw [hsm] at H1
    clear hsm hP hL hW hbW hk1 hpW hLW
    obtain ⟨A1, n1, c1, A2, n2, c2, A3, n3, c3, A4, n4, c4, A5, n5, c5⟩ := a
    simp only [PgA.val, PgA.fs] at *
    obtain ⟨f0, f1, f2, f3, f4⟩ := HK.out W (Below.refl _ _)
    go_enter Tryd.func7, Tryd.ntmps7
    go_wp2_with fail
    rw [HW.out]
    go_wp2_with fail
    refine H1.out.mono ?_
    rintro e w1 ⟨rfl, b1⟩
    clear f0 f1 f2 f3 f4
    go_wp2_with fail
    refine (HLV.out _ b1).mono ?_
    rintro e w2 ⟨rfl, b2⟩
    go_wp2
    go_ret
    exact ⟨rfl, belowThen HBW.out (belowThen b1 b2)⟩
  rw [hsm] at H1
  have few := fewOf hsm
  have HCL := Lib.hid (fun X (hX : Below W.heap.size W X) => rClone8 p a X (hpW.below hX) (by have := hP.l1; omega) (by have := hP.l2; omega) (by have := hP.l3; omega) (by have := hP.l4; omega) (by have := hP.l5; omega) (fun f hf => by have := shortOf hsm f hf; omega))
  have HRW := Lib.hid (fun X (hX : Below W.heap.size W X) => iRewrite X (hpW.below hX) hWf hsm (hLW.below hX).ins (hLW.below hX).nm)
  have HRR := Lib.hid (fun X (hX : Below W.heap.size W X) => rRewrite14 HCO X (hpW.below hX) hWf hsm)
  unfold GivesRw at HRW HRR
  have HPW := Lib.hid hpW
  obtain ⟨q, hq⟩ : ∃ q, rwR p = q := ⟨_, rfl⟩
  obtain ⟨x, hx⟩ : ∃ x, p.chk.1 = x := ⟨_, rfl⟩
  rw [hq, hx] at HRW HRR
  clear hsm hP hL hq hx HCO hW hbW hk1 hpW hLW few
  obtain ⟨A1, n1, c1, A2, n2, c2, A3, n3, c3, A4, n4, c4, A5, n5, c5⟩ := a
  simp only [PgA.val, PgA.fs] at *
  obtain ⟨f0, f1, f2, f3, f4⟩ := HK.out W (Below.refl _ _)
  go_enter Tryd.func7, Tryd.ntmps7
  go_wp2_with fail
  rw [HW.out]
  go_wp2_with fail
  refine H1.out.mono ?_
  rintro e w1 ⟨rfl, b1⟩
  have HC1 := Lib.hid (HCL.out w1 b1)
  clear f0 f1 f2 f3 f4
  obtain ⟨f0, f1, f2, f3, f4⟩ := HK.out w1 b1
  go_wp2_with fail
  refine HC1.out.mono ?_
  rintro e w2 ⟨a2, rfl, b2, hc2⟩
  obtain ⟨w3, hw3⟩ : ∃ w3, w2.alloc (.cells a2.fs 54) = w3 := ⟨_, rfl⟩
  have hb3 : Below w2.heap.size w2 w3 := by rw [← hw3]; exact belowAlloc _ _
  have HO : Hid (PBox w3 w2.heap.size a2 ∧ PgW w3 a2 p) := Lib.hid ⟨by rw [← hw3]; exact Blk.new _ _ _, hc2.pg.below hb3⟩
  have B3 := belowThen b1 (belowThen b2 hb3)
  have HB3 := Lib.hid B3
  have HR3 := Lib.hid (HRW.out w3 B3)
  have HW3 := Lib.hid hw3
  clear f0 f1 f2 f3 f4 hw3 hb3 hc2 b1 b2
  obtain ⟨f0, f1, f2, f3, f4⟩ := HK.out w3 B3
  clear B3
  obtain ⟨D1, k1, e1, D2, k2, e2, D3, k3, e3, D4, k4, e4, D5, k5, e5⟩ := a2
  simp only [PgA.fs] at HW3
  go_upto_region 4 with fail
  rw [HW3.out]
  go_wp2_with fail
  refine HR3.out.mono ?_
  rintro e w4 ⟨a4, rfl, p4, b4⟩
  obtain ⟨w5, hw5⟩ : ∃ w5, w4.alloc (.cells a4.fs 54) = w5 := ⟨_, rfl⟩
  have hb5 : Below w4.heap.size w4 w5 := by rw [← hw5]; exact belowAlloc _ _
  have HQ : Hid (PBox w5 w4.heap.size a4 ∧ PgW w5 a4 q) := Lib.hid ⟨by rw [← hw5]; exact Blk.new _ _ _, p4.below hb5⟩
  have hb35 := belowThen b4 hb5
  have HO5 := Lib.hid (And.intro (HO.out.1.below hb35) (HO.out.2.below hb35))
  have B5 := belowThen HB3.out hb35
  have HB5 := Lib.hid B5
  have HR5 := Lib.hid (HRR.out w5 B5)
  have HW5 := Lib.hid hw5
  clear f0 f1 f2 f3 f4 hw5 hb5 p4 b4 hb35
  obtain ⟨f0, f1, f2, f3, f4⟩ := HK.out w5 B5
  clear B5
  obtain ⟨E1, l1, g1, E2, l2, g2, E3, l3, g3, E4, l4, g4, E5, l5, g5⟩ := a4
  simp only [PgA.fs] at HW5
  dsimp only
  go_upto_region 5 with fail
  rw [HW5.out]
  go_wp2_with fail
  refine HR5.out.mono ?_
  rintro e w6 ⟨a6, rfl, p6, b6⟩
  obtain ⟨w7, hw7⟩ : ∃ w7, w6.alloc (.cells a6.fs 54) = w7 := ⟨_, rfl⟩
  have hb7 : Below w6.heap.size w6 w7 := by rw [← hw7]; exact belowAlloc _ _
  have HR : Hid (PBox w7 w6.heap.size a6 ∧ PgW w7 a6 q) := Lib.hid ⟨by rw [← hw7]; exact Blk.new _ _ _, p6.below hb7⟩
  have hb57 := belowThen b6 hb7
  have HO7 := Lib.hid (And.intro (HO5.out.1.below hb57) (HO5.out.2.below hb57))
  have HQ7 := Lib.hid (And.intro (HQ.out.1.below hb57) (HQ.out.2.below hb57))
  have HB7 := Lib.hid (belowThen HB5.out hb57)
  have HW7 := Lib.hid hw7
  clear f0 f1 f2 f3 f4 hw7 hb7 p6 b6 hb57
  obtain ⟨G1, i1, j1, G2, i2, j2, G3, i3, j3, G4, i4, j4, G5, i5, j5⟩ := a6
  simp only [PgA.fs] at HW7
  dsimp only
  have HE1 := Lib.hid (rEqual w7 HQ7.out.2 HR.out.2)
  rw [eqPSelf] at HE1
  simp only [PgA.val, PgA.fs] at HE1
  obtain ⟨u0, u1, u2, u3, u4⟩ := HQ7.out.1.facts
  obtain ⟨v0, v1, v2, v3, v4⟩ := HR.out.1.facts
  simp only at u0 u1 u2 u3 u4 v0 v1 v2 v3 v4
  go_upto_region 6 with fail
  rw [HW7.out]
  go_wp2_with fail
  refine HE1.out.mono ?_
  rintro e w8 ⟨rfl, b8⟩
  have hB8 := belowThen HB7.out b8
  have HE2 := Lib.hid (rEqual w8 (HPW.out.below hB8) (HO7.out.2.below b8))
  rw [eqPSelf] at HE2
  simp only [PgA.val, PgA.fs] at HE2
  clear u0 u1 u2 u3 u4 v0 v1 v2 v3 v4
  obtain ⟨u0, u1, u2, u3, u4⟩ := HK.out w8 hB8
  obtain ⟨v0, v1, v2, v3, v4⟩ := (HO7.out.1.below b8).facts
  simp only at v0 v1 v2 v3 v4
  have HB8 := Lib.hid hB8
  clear hB8 b8
  go_wp2_with fail
  refine HE2.out.mono ?_
  rintro e w9 ⟨rfl, b9⟩
  have HB9 := Lib.hid (belowThen HB8.out b9)
  have HLV9 := Lib.hid (HLV.out w9 HB9.out)
  clear u0 u1 u2 u3 u4 v0 v1 v2 v3 v4 b9
  go_wp2_with fail
  refine HLV9.out.mono ?_
  rintro e w10 ⟨rfl, b10⟩
  go_wp2
  go_ret
  exact ⟨rfl, belowThen HBW.out (belowThen HB9.out b10)⟩
end Go.Proofs.YtkanamdfjegcbaaDoor
