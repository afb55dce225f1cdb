/-
  The law SimplifyIdempotent returns true for every program, where the tables are laid.
-/
import Derived.Test.YtpkagpobobmnfaaGreatDoorPLi
import Derived.Deep.RegionHeld3
namespace Go.Proofs.YtpkagpobobmnfaaGreatDoor
open Go Go.RowKit

theorem smpWf9 {C : List I8} (hok : CfOk C) (h : ∀ i ∈ C, i.Wf) : ∀ i ∈ smp C, i.Wf := by
  have : ∀ k, ∀ i ∈ stN C k, i.Wf := by
    intro k
    induction k with
    | zero => exact h
    | succ k ih => exact prWf (thOk (fdOk (stNOk hok))) (thWf (fdOk (stNOk hok)) (fdWfL (stNOk hok) ih))
  exact this _
theorem smpPWf {p : Prg} (h0 : p.chk.1 = 0) (h : p.Wf) : (smpP p).Wf := by
  refine ⟨fun f hf i hi => ?_, h.vn, h.mn, h.cn, fun f hf => ?_⟩
  · obtain ⟨g, hg, rfl⟩ := List.mem_map.1 (show f ∈ p.funcs.map fun f => (f.1, smp f.2) from hf)
    exact smpWf9 (fnOkOf h0 g hg).1 (h.ins g hg) i hi
  · obtain ⟨g, hg, rfl⟩ := List.mem_map.1 (show f ∈ p.funcs.map fun f => (f.1, smp f.2) from hf)
    exact h.fn g hg
theorem smpPSmall {p : Prg} (h : p.small = true) : (smpP p).small = true := by
  have h1 := fewOf h
  have h2 := short9 h
  unfold Prg.small Prg.few Prg.short smpP
  simp only [Bool.and_eq_true, decide_eq_true_eq, List.length_map]
  refine ⟨by omega, List.all_eq_true.2 fun f hf => ?_⟩
  obtain ⟨g, hg, rfl⟩ := List.mem_map.1 hf
  have := h2 g hg
  have := smpLen (C := g.2)
  simpa using (by show (smp g.2).length ≤ 100; omega : (smp g.2).length ≤ 100)
theorem smpROk {p : Prg} (h : p.chk.1 = 0) : smpR p = smpP p := by unfold smpR; rw [if_pos h]
theorem smpRNo {p : Prg} (h : p.chk.1 ≠ 0) : smpR p = Prg.none9 := by unfold smpR; rw [if_neg h]
set_option maxRecDepth 100000 in
set_option maxHeartbeats 8000000 in
theorem lawIdem {a : PgA} {p : Prg} (w : World) (hP : PgW w a p) (hWf : p.Wf) (hL : Laid7 w) : Calls Tryz.prog 5 #[a.val] w (LawOkS w) := by
  obtain ⟨W, hW⟩ : ∃ W, w.alloc (.cells a.fs 43) = W := ⟨_, rfl⟩
  have hbW : Below w.heap.size w W := by rw [← hW]; exact belowAlloc w _
  have hk1 : PBox W w.heap.size a := by rw [← hW]; exact Blk.new w _ _
  have HBW := Lib.hid hbW
  have HW := Lib.hid hW
  have HK := Lib.hid (fun X (hX : Below W.heap.size W X) => (hk1.below hX).facts)
  have hpW := hP.below hbW
  have hLW := hL.below hbW
  have HPW := Lib.hid (fun X (hX : Below W.heap.size W X) => hpW.below hX)
  have HLW := Lib.hid (fun X (hX : Below W.heap.size W X) => hLW.below hX)
  have H1 := Lib.hid (rSmall15 W hpW)
  have HEX := Lib.hid (fun X (hX : Below W.heap.size W X) => exHoldsS X (hLW.below hX))
  have HP1 := Lib.hid (fun (hs : p.small = true) X (hX : Below W.heap.size W X) => iProgram X (hpW.below hX) hWf hs (hLW.below hX))
  have HWF := Lib.hid hWf
  have hl4 := hP.l4
  have hle4 := hP.funcs.le
  have hmx4 := hP.funcs.max
  rw [hl4] at hle4
  unfold maxLen at hmx4
  have HL4 := Lib.hid hl4
  have HPS := Lib.hid (fun X (hX : Below W.heap.size W X) k (hk : k < p.funcs.length) => (hpW.below hX).funcs.one hk)
  unfold GivesPp at HP1
  obtain ⟨x, hx⟩ : ∃ x, p.chk.1 = x := ⟨_, rfl⟩
  rw [hx] at HP1
  have HX := Lib.hid hx
  clear hP hL hW hbW hk1 hpW hLW hWf hx hl4
  obtain ⟨A1, n1, c1, A2, n2, c2, A3, n3, c3, A4, n4, c4, A5, n5, c5⟩ := a
  simp only [PgA.val, PgA.fs] at *
  obtain ⟨f0, f1, f2, f3, f4⟩ := HK.out W (Below.refl _ _)
  go_enter Tryz.func5, Tryz.ntmps5
  go_wp2_with fail
  rw [HW.out]
  go_wp2_with fail
  refine H1.out.mono ?_
  rintro e w1 ⟨r, rfl, hr, b1⟩
  have HB1 := Lib.hid b1
  cases r
  · clear f0 f1 f2 f3 f4 hr
    have HX1 := Lib.hid (HEX.out w1 b1)
    clear b1
    go_wp2_with fail
    refine HX1.out.mono ?_
    rintro e w2 ⟨rfl, b2⟩
    go_wp2
    go_ret
    exact ⟨rfl, belowThen HBW.out (belowThen HB1.out b2)⟩
  have hsm := hr rfl
  have HSM := Lib.hid hsm
  have HQ1 := Lib.hid (HP1.out hsm w1 b1)
  clear f0 f1 f2 f3 f4 hr hsm
  obtain ⟨f0, f1, f2, f3, f4⟩ := HK.out w1 b1
  clear b1
  go_wp2_with fail
  refine HQ1.out.mono ?_
  rintro e w2 ⟨a2, rfl, p2, b2⟩
  obtain ⟨w3, hw3⟩ : ∃ w3, w2.alloc (.cells a2.fs 43) = w3 := ⟨_, rfl⟩
  have hb3 : Below w2.heap.size w2 w3 := by rw [← hw3]; exact belowAlloc _ _
  have hO : PBox w3 w2.heap.size a2 := by rw [← hw3]; exact Blk.new _ _ _
  have p3 := p2.below hb3
  have B3 := belowThen HB1.out (belowThen b2 hb3)
  have HB3 := Lib.hid B3
  have HW3 := Lib.hid hw3
  have HP3 := Lib.hid p3
  have HO3 := Lib.hid hO
  clear f0 f1 f2 f3 f4 hw3 hb3 p2 b2 HQ1 hO p3
  by_cases hne : x = 0
  rotate_left
  · have hq : (x != 0) = true := by simpa using hne
    have hz : a2.n4 = 0 := by
      have h := HP3.out.l4
      rw [smpRNo (by rw [HX.out]; exact hne)] at h
      exact h.symm
    obtain ⟨D1, k1, e1, D2, k2, e2, D3, k3, e3, D4, k4, e4, D5, k5, e5⟩ := a2
    simp only [PgA.fs] at HW3
    simp only at hz
    subst hz
    obtain ⟨u0, u1, u2, u3, u4⟩ := HO3.out.facts
    simp only at u0 u1 u2 u3 u4
    have HX3 := Lib.hid (HEX.out w3 B3)
    clear B3
    dsimp only
    go_upto_region 4 with fail
    rw [HW3.out]
    go_wp2_with fail
    refine HX3.out.mono ?_
    rintro e w4 ⟨rfl, b4⟩
    go_wp2
    go_ret
    exact ⟨rfl, belowThen HBW.out (belowThen HB3.out b4)⟩
  subst hne
  have HV := Lib.hid (smpValid HX.out)
  have HFN := Lib.hid (fnOkOf HX.out)
  obtain ⟨q, hqe⟩ : ∃ q, smpP p = q := ⟨_, rfl⟩
  have HQW : Hid (PgW w3 a2 q) := Lib.hid (by have := HP3.out; rw [smpROk HX.out, hqe] at this; exact this)
  have HQV : Hid (q.chk.1 = 0) := Lib.hid (by rw [← hqe]; exact HV.out)
  have HQF : Hid q.Wf := Lib.hid (by rw [← hqe]; exact smpPWf HX.out HWF.out)
  have HQS : Hid (q.small = true) := Lib.hid (by rw [← hqe]; exact smpPSmall HSM.out)
  have HQR : Hid (smpR q = q) := Lib.hid (by rw [smpROk HQV.out, ← hqe]; exact smpAgain HX.out)
  have HQL : Hid (q.funcs.length = p.funcs.length) := Lib.hid (by rw [← hqe]; exact List.length_map ..)
  have HQA : Hid (∀ k (h : k < q.funcs.length) (h2 : k < p.funcs.length), q.funcs[k] = (p.funcs[k].1, smp p.funcs[k].2)) := Lib.hid fun k h h2 => by subst hqe; exact List.getElem_map _
  have HP4 := Lib.hid (iProgram w3 HQW.out HQF.out HQS.out (HLW.out w3 B3))
  unfold GivesPp at HP4
  rw [HQV.out, HQR.out] at HP4
  have hk4 : a2.n4 = n4 := by rw [← HQW.out.l4, HQL.out]; exact HL4.out
  have hke4 := HQW.out.funcs.le
  rw [HQW.out.l4] at hke4
  have hkm4 := HQW.out.funcs.max
  unfold maxLen at hkm4
  clear HP3 hqe HV
  obtain ⟨D1, k1, e1, D2, k2, e2, D3, k3, e3, D4, k4, e4, D5, k5, e5⟩ := a2
  simp only [PgA.fs] at HW3
  simp only at hk4 hke4 hkm4
  subst hk4
  simp only [PgA.val, PgA.fs] at HP4
  obtain ⟨u0, u1, u2, u3, u4⟩ := HO3.out.facts
  simp only at u0 u1 u2 u3 u4
  clear B3
  dsimp only
  go_upto_region 4 with fail
  rw [HW3.out]
  go_wp2_with fail
  refine HP4.out.mono ?_
  rintro e w4 ⟨a4, rfl, p4, b4⟩
  obtain ⟨w5, hw5⟩ : ∃ w5, w4.alloc (.cells a4.fs 43) = w5 := ⟨_, rfl⟩
  have hb5 : Below w4.heap.size w4 w5 := by rw [← hw5]; exact belowAlloc _ _
  have b35 := belowThen b4 hb5
  have HO5 := Lib.hid (show PBox w5 w4.heap.size a4 by rw [← hw5]; exact Blk.new _ _ _)
  have HR5 := Lib.hid (p4.below hb5)
  have HQ5 := Lib.hid (And.intro (HO3.out.below b35) (HQW.out.below b35))
  have B5 := belowThen HB3.out b35
  have HB5 := Lib.hid B5
  have HW5 := Lib.hid hw5
  clear u0 u1 u2 u3 u4 hw5 hb5 p4 b4 b35 HP4
  obtain ⟨E1, l1, g1, E2, l2, g2, E3, l3, g3, E4, l4, g4, E5, l5, g5⟩ := a4
  simp only [PgA.fs] at HW5
  dsimp only
  obtain ⟨u0, u1, u2, u3, u4⟩ := HQ5.out.1.facts
  obtain ⟨v0, v1, v2, v3, v4⟩ := HO5.out.facts
  simp only at u0 u1 u2 u3 u4 v0 v1 v2 v3 v4
  have HE1 := Lib.hid (rEqual w5 HQ5.out.2 HR5.out)
  rw [eqPSelf] at HE1
  simp only [PgA.val, PgA.fs] at HE1
  go_upto_region 7 with fail
  rw [HW5.out]
  go_wp2_with fail
  refine HE1.out.mono ?_
  rintro e w6 ⟨rfl, b6⟩
  have HQ6 := Lib.hid (And.intro (HQ5.out.1.below b6) (HQ5.out.2.below b6))
  have B6 := belowThen HB5.out b6
  have HB6 := Lib.hid B6
  have HV6 := Lib.hid (rValidP w6 HQ6.out.2 HQF.out HQS.out)
  rw [show q.okB = true from decide_eq_true HQV.out] at HV6
  simp only [PgA.val, PgA.fs] at HV6
  clear u0 u1 u2 u3 u4 v0 v1 v2 v3 v4 b6 B5
  obtain ⟨u0, u1, u2, u3, u4⟩ := HQ6.out.1.facts
  simp only at u0 u1 u2 u3 u4
  go_wp2_with fail
  refine HV6.out.mono ?_
  rintro e w7 ⟨rfl, b7⟩
  have HQ7 := Lib.hid (And.intro (HQ6.out.1.below b7) (HQ6.out.2.below b7))
  have B7 := belowThen HB6.out b7
  have HB7 := Lib.hid B7
  clear u0 u1 u2 u3 u4 b7 B6
  obtain ⟨s0, s1, s2, s3, s4⟩ := HQ7.out.1.facts
  obtain ⟨f0, f1, f2, f3, f4⟩ := HK.out w7 B7
  simp only at s0 s1 s2 s3 s4
  clear B7
  have hnn : ((k4 : Int) != (k4 : Int)) = false := by simp
  go_wp2_with fail
  go_loopg [63] k4 (fun g i wr => ∃ k : Nat, k + g = k4 ∧ i = .int .i64 k ∧ Below w7.heap.size w7 wr)
  case atStart => exact ⟨0, by omega, rfl, Below.refl _ _⟩
  case round =>
    obtain ⟨k, hk, rfl, hb⟩ := hrel
    have HB := Lib.hid hb
    cases gk with
    | zero =>
      have hkm : k = k4 := by omega
      subst hkm
      have hjz : ¬ ((k : Int) < k) := by omega
      have HX9 := Lib.hid (HEX.out wr (belowThen HB7.out hb))
      clear hb
      go_wp2_with fail
      refine HX9.out.mono ?_
      rintro e w9 ⟨rfl, b9⟩
      go_wp2
      go_ret
      exact ⟨rfl, belowThen HBW.out (belowThen HB7.out (belowThen HB.out b9))⟩
    | succ g2 =>
      have hk0 : (0 : Int) ≤ k := by omega
      have hk1 : (k : Int) < k4 := by omega
      have hkl : k < p.funcs.length := by have := HL4.out; omega
      have hkq : k < q.funcs.length := by rw [HQL.out]; exact hkl
      obtain ⟨b, off, eA, hb1, hx0, v, hx1, B, m, d, rfl, hm, hrd⟩ := (HQ7.out.2.below hb).funcs.one hkq
      have eA : D4 = some ⟨b, off, none⟩ := eA
      subst eA
      obtain ⟨b', off', eA', hb1', hy0, v', hy1, B', m', d', rfl, hm', _⟩ := HPS.out wr (belowThen HB7.out hb) k hkl
      have eA' : A4 = some ⟨b', off', none⟩ := eA'
      subst eA'
      rw [HQA.out k hkq hkl] at hx0 hm hrd
      simp only at hx0 hm hrd
      have hok := smpOk (HFN.out p.funcs[k] (List.getElem_mem hkl)).1
      have hwf := smpWf9 (HFN.out p.funcs[k] (List.getElem_mem hkl)).1 (HWF.out.ins _ (List.getElem_mem hkl))
      have hfix := smpFix (HFN.out p.funcs[k] (List.getElem_mem hkl)).1
      have hlen : m ≤ m' := by rw [← hm, ← hm']; exact smpLen
      obtain ⟨nm, hnm⟩ : ∃ nm, p.funcs[k].1 = nm := ⟨_, rfl⟩
      obtain ⟨D, hD⟩ : ∃ D, smp p.funcs[k].2 = D := ⟨_, rfl⟩
      rw [hnm] at hx0
      rw [hD] at hm hrd hok hwf hfix
      have lF : (fdL D).length = m := by rw [fdLLen]; exact hm
      have lT : (thL (fdL D)).length = m := by rw [thLen]; exact lF
      obtain ⟨wa, hwa⟩ : ∃ wa, wr.alloc (.cells #[.string nm, .slice B m d] 24) = wa := ⟨_, rfl⟩
      have hba : Below wr.heap.size wr wa := by rw [← hwa]; exact belowAlloc _ _
      have HBXa := Lib.hid (show Blk wa wr.heap.size 24 #[.string nm, .slice B m d] by rw [← hwa]; exact Blk.new _ _ _)
      have HLDa := Lib.hid (fun X (hX : Below wa.heap.size wa X) => HLW.out X (belowThen HB7.out (belowThen HB.out (belowThen hba hX))))
      have HRDa := Lib.hid (hrd.below stabI hba)
      have HC1 := Lib.hid (passFold nm D hok m hm B d wa ⟨HRDa.out, hwf, HLDa.out wa (Below.refl _ _)⟩)
      have HC2 := Lib.hid (fun A2 c2 X (h1 : RdE 8 EI X A2 c2 (fdL D)) (h2 : Below wa.heap.size wa X) => passThread nm (fdL D) (fdOk hok) m lF A2 c2 X ⟨h1, fdWfL hok hwf, HLDa.out X h2⟩)
      have HC3 := Lib.hid (fun A2 c2 X (h1 : RdE 8 EI X A2 c2 (thL (fdL D))) (h2 : Below wa.heap.size wa X) => passPrune nm (thL (fdL D)) (thOk (fdOk hok)) m lT A2 c2 X ⟨h1, thWf (fdOk hok) (fdWfL hok hwf), HLDa.out X h2⟩)
      have hfix2 : prL (thL (fdL D)) = D := hfix
      rw [hfix2] at HC3
      unfold PassGives fnV at HC1 HC2 HC3
      rw [lF] at HC1
      rw [lT] at HC2
      rw [hm] at HC3
      have HSC := Lib.hid (fun A2 c2 X (h1 : RdE 8 EI X A2 c2 D) (h2 : RdE 8 EI X B d D) => rSameC nm D D m m hm hm A2 B c2 d X h1 h2)
      rw [decide_eq_true (rfl : D = D)] at HSC
      unfold fnV at HSC
      have HWA := Lib.hid hwa
      have HBA := Lib.hid hba
      have hle := hrd.le
      have hmx := hrd.max
      rw [hm] at hle
      unfold maxLen at hmx
      have HY1 := Lib.hid (fun X (hX : Below wa.heap.size wa X) => (⟨((belowThen hba hX).cell hb1').trans hy1, (HK.out X (belowThen HB7.out (belowThen HB.out (belowThen hba hX)))).2.2.2.1, (HBXa.out.below' hX).cell 0, (HBXa.out.below' hX).cell 1⟩ :
        X.cell? ⟨b', off' + k * 2 + 1, none⟩ = some (.slice B' m' d') ∧ X.cell? ⟨w.heap.size, 3, none⟩ = some (.slice (some ⟨b', off', none⟩) k4 c4) ∧ X.cell? ⟨wr.heap.size, 0, none⟩ = some (.string nm) ∧ X.cell? ⟨wr.heap.size, 1, none⟩ = some (.slice B m d)))
      have hgt : decide ((m' : Int) < (m : Int)) = false := decide_eq_false (by omega)
      clear hrd hok hwf hfix hfix2 hnm hD lF lT hwa hb hm hm' hy0 hy1 f0 f1 f2 f3 f4 s0 s1 s2 s3 s4 hba
      go_upto_region 12 with fail
      rw [HWA.out]
      obtain ⟨-, -, z0, z1⟩ := HY1.out wa (Below.refl _ _)
      go_wp2_with fail
      refine HC1.out.mono ?_
      rintro e1 w10 ⟨Ab, cb, rfl, ⟨rd1, -⟩, b10⟩
      obtain ⟨w11, hw11⟩ : ∃ X, w10.alloc (.cells #[.string nm, .slice Ab m cb] 24) = X := ⟨_, rfl⟩
      have b11 : Below w10.heap.size w10 w11 := by rw [← hw11]; exact belowAlloc _ _
      have HBb := Lib.hid (show Blk w11 w10.heap.size 24 #[.string nm, .slice Ab m cb] by rw [← hw11]; exact Blk.new _ _ _)
      have HRb := Lib.hid (rd1.below stabI b11)
      have HB11 := Lib.hid (belowThen b10 b11)
      have HW11 := Lib.hid hw11
      clear z0 z1 hx0 hx1 b10 b11 hw11 rd1
      have y0 := HBb.out.cell 0
      have y1 := HBb.out.cell 1
      go_upto_region 13 with fail
      rw [HW11.out]
      go_wp2_with fail
      refine (HC2.out Ab cb w11 HRb.out HB11.out).mono ?_
      rintro e1 w12 ⟨Ac, cc, rfl, ⟨rd1, -⟩, b12⟩
      obtain ⟨w13, hw13⟩ : ∃ X, w12.alloc (.cells #[.string nm, .slice Ac m cc] 24) = X := ⟨_, rfl⟩
      have b13 : Below w12.heap.size w12 w13 := by rw [← hw13]; exact belowAlloc _ _
      have HBc := Lib.hid (show Blk w13 w12.heap.size 24 #[.string nm, .slice Ac m cc] by rw [← hw13]; exact Blk.new _ _ _)
      have HRc := Lib.hid (rd1.below stabI b13)
      have HB13 := Lib.hid (belowThen HB11.out (belowThen b12 b13))
      have HW13 := Lib.hid hw13
      clear y0 y1 b12 b13 hw13 rd1
      have y0 := HBc.out.cell 0
      have y1 := HBc.out.cell 1
      go_upto_region 14 with fail
      rw [HW13.out]
      go_wp2_with fail
      refine (HC3.out Ac cc w13 HRc.out HB13.out).mono ?_
      rintro e1 w14 ⟨Ad, cd, rfl, ⟨rd1, -⟩, b14⟩
      obtain ⟨w15, hw15⟩ : ∃ X, w14.alloc (.cells #[.string nm, .slice Ad m cd] 24) = X := ⟨_, rfl⟩
      have b15 : Below w14.heap.size w14 w15 := by rw [← hw15]; exact belowAlloc _ _
      have HBd := Lib.hid (show Blk w15 w14.heap.size 24 #[.string nm, .slice Ad m cd] by rw [← hw15]; exact Blk.new _ _ _)
      have HRd := Lib.hid (rd1.below stabI b15)
      have HB15 := Lib.hid (belowThen HB13.out (belowThen b14 b15))
      have HW15 := Lib.hid hw15
      clear y0 y1 b14 b15 hw15 rd1
      have HS := Lib.hid (fun X (hX : Below w15.heap.size w15 X) => (by
        obtain ⟨q1, q2, q3, q4⟩ := HY1.out X (belowThen HB15.out hX)
        exact ⟨hX, q1, q2, q3, q4, (HBd.out.below' hX).cell 0, (HBd.out.below' hX).cell 1⟩ : Below w15.heap.size w15 X ∧ X.cell? ⟨b', off' + k * 2 + 1, none⟩ = some (.slice B' m' d') ∧ X.cell? ⟨w.heap.size, 3, none⟩ = some (.slice (some ⟨b', off', none⟩) k4 c4) ∧ X.cell? ⟨wr.heap.size, 0, none⟩ = some (.string nm) ∧ X.cell? ⟨wr.heap.size, 1, none⟩ = some (.slice B m d) ∧ X.cell? ⟨w14.heap.size, 0, none⟩ = some (.string nm) ∧ X.cell? ⟨w14.heap.size, 1, none⟩ = some (.slice Ad m cd)))
      have HSD := Lib.hid (fun X (hX : Below w15.heap.size w15 X) => HSC.out Ad cd X (HRd.out.below stabI hX) (HRDa.out.below stabI (belowThen HB15.out hX)))
      have S0 := HS.out w15.drew ((Below.refl _ w15).drew)
      go_upto_region 15 with fail
      rw [HW15.out]
      go_region_held3 (fun X => Below w15.heap.size w15 X ∧ X.cell? ⟨b', off' + k * 2 + 1, none⟩ = some (.slice B' m' d') ∧ X.cell? ⟨w.heap.size, 3, none⟩ = some (.slice (some ⟨b', off', none⟩) k4 c4) ∧ X.cell? ⟨wr.heap.size, 0, none⟩ = some (.string nm) ∧ X.cell? ⟨wr.heap.size, 1, none⟩ = some (.slice B m d) ∧ X.cell? ⟨w14.heap.size, 0, none⟩ = some (.string nm) ∧ X.cell? ⟨w14.heap.size, 1, none⟩ = some (.slice Ad m cd)) (first | with_reducible assumption | exact HS.out _ (by with_reducible assumption)) (first
        | (go_at_call 22; refine (HSD.out _ (‹Below w15.heap.size w15 _ ∧ _›).1).mono ?_; rintro e t1 ⟨rfl, y1⟩; have q1 := belowThen (‹Below w15.heap.size w15 _ ∧ _›).1 y1; clear HSD))
      have Q1 := Lib.hid q1
      clear q1 y1 S0
      go_wp2
      all_goals first
        | (exfalso; omega)
        | skip
      go_roundg g2
      case measure => omega
      case rel => exact ⟨k + 1, by omega, by go_num, belowThen HB.out (belowThen HBA.out (belowThen HB15.out Q1.out))⟩
end Go.Proofs.YtpkagpobobmnfaaGreatDoor
