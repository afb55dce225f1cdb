/-
  The specification's simplification of a function.
-/
import Derived.Test.YtpkagpobobmnfaaGreatDoorPSm
import Derived.Test.YtpkagpobobmnfaaGreatDoorPSy
import Derived.Test.YtpkagpobobmnfaaGreatDoorPSo
import Derived.Test.YtpkagpobobmnfaaGreatDoorPSfU
import Derived.Test.YtpkagpobobmnfaaGreatDoorPLi
import Derived.Deep.RegionHeld3
namespace Go.Proofs.YtpkagpobobmnfaaGreatDoor
open Go Go.RowKit Go.Maps

theorem passPrune15 {nm : ByteArray} {C : List I8} (hok : CfOk C) {n : Nat} (hn : C.length = n) {A : Option Addr} {c : Nat} {w : World} (h : CdW w A c C) : Calls Tryz.prog 90 #[fnV nm A n c] w (PassGives nm (prL C) w) := by
  have := rPrune15F nm C n hn A c w h
  rw [nmR0 (cfMk hok), cdR0 (cfMk hok), cfMk hok] at this
  exact this
theorem passFold15 {nm : ByteArray} {C : List I8} (hok : CfOk C) {n : Nat} (hn : C.length = n) {A : Option Addr} {c : Nat} {w : World} (h : CdW w A c C) : Calls Tryz.prog 88 #[fnV nm A n c] w (GivesFn nm (fdL C) 0 w) := by
  have := rFold15 nm C n hn A c w h
  rw [nmR0 (cfMk hok), cdR0 (cfMk hok), cfMk hok] at this
  exact this
theorem passThread15 {nm : ByteArray} {C : List I8} (hok : CfOk C) {n : Nat} (hn : C.length = n) {A : Option Addr} {c : Nat} {w : World} (h : CdW w A c C) : Calls Tryz.prog 89 #[fnV nm A n c] w (GivesFn nm (thL C) 0 w) := by
  have := rThread15 nm C n hn A c w h
  rw [nmR0 (cfMk hok), cdR0 (cfMk hok), cfMk hok] at this
  exact this
theorem SmSt.below9 {w : World} {nm : ByteArray} {A : Option Addr} {n c : Nat} {D : List I8} {X Y : World} (h : SmSt w nm A n c D X) (hb : Below X.heap.size X Y) : SmSt w nm A n c D Y := ⟨belowThen h.bel hb, h.f.below' hb, h.r.below' hb, h.rd.below stabI hb, h.ne⟩
/-- The result, its row the argument's or the call's own. -/
def GivesRf (nm : ByteArray) (D : List I8) (A : Option Addr) (w : World) (e : Ending) (w' : World) : Prop := ∃ A' c, e = .returned (fnV nm A' D.length c) ∧ RdE 8 EI w' A' c D ∧ (A' = A ∨ ∀ ad, A' = some ad → w.heap.size ≤ ad.block) ∧ Below w.heap.size w w'
set_option maxRecDepth 100000 in
set_option maxHeartbeats 8000000 in
theorem rFunction (nm : ByteArray) (C : List I8) (hok : CfOk C) (n : Nat) (hn : C.length = n) (A : Option Addr) (c : Nat) (w : World) (h : CdW w A c C) :
    Calls Tryz.prog 41 #[fnV nm A n c] w (GivesRf nm (smp C) A w) := by
  obtain ⟨W, hW⟩ : ∃ W, (w.alloc (.cells #[.string nm, .slice A n c] 24)).alloc (.cells #[.string ⟨#[]⟩, .slice none 0 0] 24) = W := ⟨_, rfl⟩
  obtain ⟨h1, h2, hbW, hsz⟩ := two8 w _ _ hW
  have HST := Lib.hid (show SmSt w nm A n c C W from ⟨hbW, h1, h2, h.rd.below stabI hbW, fun hl ad e => by
    obtain ⟨b, off, eA, hb, _⟩ := h.rd.one (j := 0) hl
    rw [e] at eA
    injection eA with eA
    subst eA
    exact Nat.ne_of_lt hb⟩)
  have HNE := Lib.hid (fun (hl : 0 < C.length) ad (e : A = some ad) => (by
    obtain ⟨b, off, eA, hb, _⟩ := h.rd.one (j := 0) hl
    rw [e] at eA
    injection eA with eA
    subst eA
    exact Nat.ne_of_lt (Nat.lt_succ_of_lt hb) : ad.block ≠ w.heap.size + 1))
  have HW := Lib.hid hW
  have HLD := Lib.hid (fun X (hX : Below w.heap.size w X) => h.ld.below hX)
  have HWF := Lib.hid h.wf
  have HOK := Lib.hid hok
  have HN := Lib.hid hn
  unfold fnV
  clear h h1 h2 hbW hW hsz hok hn
  go_enter Tryz.func41, Tryz.ntmps41
  go_upto_region 1 with fail
  rw [HW.out]
  go_wp2_with fail
  go_loopg [] (mz C + 1) (fun g X => ∃ (k : Nat) (A1 : Option Addr) (n1 c1 : Nat), Hid (mz (stN C k) < g ∧ (stN C k).length = n1 ∧ ∀ i ∈ stN C k, i.Wf) ∧ Hid (SmSt w nm A1 n1 c1 (stN C k) X) ∧ Hid (w.heap.size + 1 < X.heap.size ∧ (A1 = A ∨ ∀ ad, A1 = some ad → w.heap.size + 1 < ad.block) ∧ (0 < (stN C k).length → ∀ ad, A1 = some ad → ad.block ≠ w.heap.size + 1)))
  case atStart => exact ⟨0, A, n, c, Lib.hid ⟨by show mz C < _; omega, HN.out, HWF.out⟩, HST, Lib.hid ⟨HST.out.r.lt, .inl rfl, HNE.out⟩⟩
  case round =>
    obtain ⟨k, A1, n1, c1, HM, HS, HZ⟩ := hrel
    have hokD := stNOk (k := k) HOK.out
    obtain ⟨D, hD⟩ : ∃ D, stN C k = D := ⟨_, rfl⟩
    have HSD : Hid (stN C (k + 1) = st D) := Lib.hid (by rw [← hD]; rfl)
    have HDD := Lib.hid hD
    rw [hD] at HM HS HZ hokD
    have HOD := Lib.hid hokD
    cases gk with
    | zero => exact absurd HM.out.1 (Nat.not_lt_zero _)
    | succ g2 =>
      have lF : (fdL D).length = n1 := by rw [fdLLen]; exact HM.out.2.1
      have lT : (thL (fdL D)).length = n1 := by rw [thLen]; exact lF
      obtain ⟨m, lP⟩ : ∃ m, (prL (thL (fdL D))).length = m := ⟨_, rfl⟩
      have HC1 := Lib.hid (passFold15 (nm := nm) hokD HM.out.2.1 (A := A1) (c := c1) (w := wr) ⟨HS.out.rd, HM.out.2.2, HLD.out wr HS.out.bel⟩)
      have HC2 := Lib.hid (fun A2 c2 X (h1 : RdE 8 EI X A2 c2 (fdL D)) (h2 : Below w.heap.size w X) => passThread15 (nm := nm) (fdOk hokD) lF (A := A2) (c := c2) (w := X) ⟨h1, fdWfL hokD HM.out.2.2, HLD.out X h2⟩)
      have HC3 := Lib.hid (fun A2 c2 X (h1 : RdE 8 EI X A2 c2 (thL (fdL D))) (h2 : Below w.heap.size w X) => passPrune15 (nm := nm) (thOk (fdOk hokD)) lT (A := A2) (c := c2) (w := X) ⟨h1, thWf (fdOk hokD) (fdWfL hokD HM.out.2.2), HLD.out X h2⟩)
      have HWP := Lib.hid (prWf (thOk (fdOk hokD)) (thWf (fdOk hokD) (fdWfL hokD HM.out.2.2)))
      have HEQ := Lib.hid (fun A2 c2 X (h1 : RdE 8 EI X A2 c2 (prL (thL (fdL D)))) (h2 : RdE 8 EI X A1 c1 D) => rSameC nm (prL (thL (fdL D))) D m n1 lP HM.out.2.1 A2 A1 c2 c1 X h1 h2)
      have HLP := Lib.hid lP
      have HSL := Lib.hid (stLess hokD)
      unfold PassGives at HC3
      unfold GivesFn at HC1 HC2
      unfold fnV at HC1 HC2 HC3 HEQ
      rw [lF] at HC1
      rw [lT] at HC2
      rw [lP] at HC3
      have f0 := HS.out.f.cell 0
      have f1 := HS.out.f.cell 1
      clear hD hokD lF lT lP
      go_wp2_with fail
      refine HC1.out.mono ?_
      rintro e1 w1 ⟨A2, c2, rfl, rd1, b1⟩
      obtain ⟨w2, hw2⟩ : ∃ X, w1.alloc (.cells #[.string nm, .slice A2 n1 c2] 24) = X := ⟨_, rfl⟩
      have b12 : Below w1.heap.size w1 w2 := by rw [← hw2]; exact belowAlloc _ _
      have HBa := Lib.hid (show Blk w2 w1.heap.size 24 #[.string nm, .slice A2 n1 c2] by rw [← hw2]; exact Blk.new _ _ _)
      have HS2 := Lib.hid (HS.out.below9 (belowThen b1 b12))
      have HR2 := Lib.hid (rd1.below stabI b12)
      have HW2 := Lib.hid hw2
      have HB2 := Lib.hid (belowThen b1 b12)
      clear f0 f1 hw2 b1 rd1 b12
      have g0 := HBa.out.cell 0
      have g1 := HBa.out.cell 1
      go_upto_region 2 with fail
      rw [HW2.out]
      go_wp2_with fail
      refine (HC2.out A2 c2 w2 HR2.out HS2.out.bel).mono ?_
      rintro e1 w3 ⟨A4, c4, rfl, rd3, b3⟩
      obtain ⟨w4, hw4⟩ : ∃ X, w3.alloc (.cells #[.string nm, .slice A4 n1 c4] 24) = X := ⟨_, rfl⟩
      have b34 : Below w3.heap.size w3 w4 := by rw [← hw4]; exact belowAlloc _ _
      have HBb := Lib.hid (show Blk w4 w3.heap.size 24 #[.string nm, .slice A4 n1 c4] by rw [← hw4]; exact Blk.new _ _ _)
      have HS4 := Lib.hid (HS2.out.below9 (belowThen b3 b34))
      have HR4 := Lib.hid (rd3.below stabI b34)
      have HW4 := Lib.hid hw4
      have HB4 := Lib.hid (belowThen HB2.out (belowThen b3 b34))
      clear g0 g1 hw4 b3 rd3 b34
      have g0 := HBb.out.cell 0
      have g1 := HBb.out.cell 1
      go_upto_region 3 with fail
      rw [HW4.out]
      go_wp2_with fail
      refine (HC3.out A4 c4 w4 HR4.out HS4.out.bel).mono ?_
      rintro e1 w5 ⟨A6, c6, rfl, ⟨rd5, fr5⟩, b5⟩
      obtain ⟨w6, hw6⟩ : ∃ X, w5.alloc (.cells #[.string nm, .slice A6 m c6] 24) = X := ⟨_, rfl⟩
      have b56 : Below w5.heap.size w5 w6 := by rw [← hw6]; exact belowAlloc _ _
      have HBc := Lib.hid (show Blk w6 w5.heap.size 24 #[.string nm, .slice A6 m c6] by rw [← hw6]; exact Blk.new _ _ _)
      have HS6 := Lib.hid (HS4.out.below9 (belowThen b5 b56))
      have HR6 := Lib.hid (rd5.below stabI b56)
      have HFR : Hid (∀ ad, A6 = some ad → w.heap.size + 1 < ad.block) := Lib.hid fun ad e => by have := fr5 ad e; have := HS4.out.r.lt; omega
      have HW6 := Lib.hid hw6
      have HB6 := Lib.hid (belowThen HB4.out (belowThen b5 b56))
      clear g0 g1 hw6 b5 rd5 b56 fr5
      have g0 := HBc.out.cell 0
      have g1 := HBc.out.cell 1
      have f0 := HS6.out.f.cell 0
      have f1 := HS6.out.f.cell 1
      have HE6 := Lib.hid (HEQ.out A6 c6 w6 HR6.out HS6.out.rd)
      obtain ⟨r, hr⟩ : ∃ r, decide (prL (thL (fdL D)) = D) = r := ⟨_, rfl⟩
      rw [hr] at HE6
      have HR := Lib.hid hr
      clear hr
      go_upto_region 4 with fail
      rw [HW6.out]
      go_wp2_with fail
      refine HE6.out.mono ?_
      rintro e1 w7 ⟨rfl, b7⟩
      have HS7 := Lib.hid (HS6.out.below9 b7)
      have HBd := Lib.hid (HBc.out.below' b7)
      have HR7 := Lib.hid (HR6.out.below stabI b7)
      have HB7 := Lib.hid (belowThen HB6.out b7)
      clear f0 f1 g0 g1 b7
      have f0 := HS7.out.f.cell 0
      have f1 := HS7.out.f.cell 1
      cases r
      · have hne : st D ≠ D := fun e => by have := HR.out; rw [show prL (thL (fdL D)) = D from e] at this; simp at this
        have HMZ : Hid (mz (st D) < g2) := Lib.hid (by have := HSL.out.resolve_left hne; have := HM.out.1; omega)
        have f9 := HS7.out.f.frozen 0
        have f8 := HS7.out.f.frozen 1
        have g0 := HBd.out.cell 0
        have g1 := HBd.out.cell 1
        have hc := chgFn2 w7 w.heap.size (.string nm) (.slice A6 m c6)
        have HS8 : Hid (SmSt w nm A6 m c6 (prL (thL (fdL D))) ((w7.setCell ⟨w.heap.size, 0, none⟩ (.string nm)).setCell ⟨w.heap.size, 1, none⟩ (.slice A6 m c6))) := Lib.hid ⟨belChgF HS7.out.bel hc (by have := HS7.out.bel.size; omega) fun k hk => (show k ≠ _ by omega), stored2F HS7.out.f, (hc.block _ HS7.out.r.lt (show _ ≠ _ by omega)).trans HS7.out.r, rdI8Chg2 HR7.out (fun _ ad e => by have := HFR.out ad e; omega) hc, fun _ ad e => by have := HFR.out ad e; omega⟩
        clear hne hc
        go_wp2_with fail
        go_roundg g2
        case measure => omega
        case rel => exact ⟨k + 1, A6, m, c6, Lib.hid ⟨by rw [HSD.out]; exact HMZ.out, by rw [HSD.out]; exact HLP.out, by rw [HSD.out]; exact HWP.out⟩, by rw [HSD.out]; exact HS8, Lib.hid ⟨HS8.out.r.lt, .inr HFR.out, fun _ ad e => by have := HFR.out ad e; omega⟩⟩
      · have hst : st D = D := of_decide_eq_true HR.out
        have HSMP : Hid (D = smp C) := Lib.hid (by
          have := smpOf HOK.out (k := k) (by rw [HDD.out]; exact hst)
          rw [HDD.out] at this
          exact this)
        have g0 := HS7.out.r.cell 0
        have g1 := HS7.out.r.cell 1
        have fg0 := HS7.out.r.frozen 0
        have fg1 := HS7.out.r.frozen 1
        clear hst
        go_wp2_with fail
        refine bodyPost_ret ((stored2F HS7.out.r).res rfl _ rfl Tryz.underlying24 rfl infoFn2) rfl ?_
        rw [← HSMP.out]
        refine ⟨A1, c1, by rw [HM.out.2.1]; rfl, rdI8Chg2 HS7.out.rd HZ.out.2.2 (chgFn2 _ _ _ _), HZ.out.2.1.imp id (fun h ad e => by have := h ad e; omega), below2F HS7.out.bel (by omega)⟩
end Go.Proofs.YtpkagpobobmnfaaGreatDoor

namespace Go.Proofs.YtpkagpobobmnfaaGreatDoor
open Go Go.RowKit

set_option maxRecDepth 100000 in
set_option maxHeartbeats 4000000 in
theorem rProgram15 {a : PgA} {p : Prg} (w : World) (hP : PgW w a p) (hW : p.Wf) (hsm : p.small = true) (hL : Laid7 w) :
    Calls Tryz.prog 16 #[a.val] w (GivesPp p w) := by
  obtain ⟨W0, hW0⟩ : ∃ W, w.alloc (.cells a.fs 43) = W := ⟨_, rfl⟩
  obtain ⟨W, hWE⟩ : ∃ W, W0.alloc (.cells zer5 43) = W := ⟨_, rfl⟩
  have hbW : Below w.heap.size w W := by rw [← hWE, ← hW0]; exact belowThen (belowAlloc w _) (belowAlloc _ _)
  have hB : PBox W w.heap.size a := by rw [← hWE, ← hW0]; exact (Blk.new w _ _).alloc _
  have hR : Blk W (w.heap.size + 1) 43 zer5 := by rw [← hWE, ← hW0]; exact Blk.new1 w _ _ _
  have HRB := Lib.hid hR
  have HK := Lib.hid (fun Y (hY : Below W.heap.size W Y) => (hB.below hY).facts)
  have HCK := Lib.hid (rCheckP W (hP.below hbW) hW hsm)
  have few := fewOf hsm
  have HCL := Lib.hid (fun X (hX : Below W.heap.size W X) => rClone8o p a X ((hP.below hbW).below hX) (by have := hP.l1; omega) (by have := hP.l2; omega) (by have := hP.l3; omega) (by have := hP.l4; omega) (by have := hP.l5; omega) (fun f hf => by have := short9 hsm f hf; omega))
  have HLD := Lib.hid (fun X (hX : Below W.heap.size W X) => (hL.below hbW).below hX)
  have HWF := Lib.hid hW.ins
  have HFO := Lib.hid (fun (h : p.chk.1 = 0) => fnOkOf h)
  have HLL := Lib.hid (And.intro hP.l1 (And.intro hP.l2 (And.intro hP.l3 (And.intro hP.l4 hP.l5))))
  have HW := Lib.hid hWE
  have HW0 := Lib.hid hW0
  have HBW := Lib.hid hbW
  have HRR : Hid (p.chk.1 = 0 → smpR p = smpP p) := Lib.hid fun h => by unfold smpR; rw [if_pos h]
  have HRN : Hid (p.chk.1 ≠ 0 → smpR p = Prg.none9) := Lib.hid fun h => by unfold smpR; rw [if_neg h]
  unfold GivesPp
  unfold err3 at HCK
  obtain ⟨x, hx⟩ : ∃ x, p.chk.1 = x := ⟨_, rfl⟩
  obtain ⟨x1, hx1⟩ : ∃ x, p.chk.2.1 = x := ⟨_, rfl⟩
  obtain ⟨x2, hx2⟩ : ∃ x, p.chk.2.2 = x := ⟨_, rfl⟩
  rw [hx, hx1, hx2] at HCK
  rw [hx] at HRR HRN HFO ⊢
  obtain ⟨A1, n1, c1, A2, n2, c2, A3, n3, c3, A4, n4, c4, A5, n5, c5⟩ := a
  simp only [PgA.val, PgA.fs] at *
  clear hP hW hL hsm hWE hbW hB hx hx1 hx2 few hR hW0
  unfold zer5 at HW
  by_cases hne : x = 0
  rotate_left
  · have hq : (x != 0) = true := by simpa using hne
    have HN := Lib.hid (HRN.out hne)
    clear hne HRR HRN HCL HFO
    go_enter Tryz.func16, Tryz.ntmps16
    obtain ⟨f0, f1, f2, f3, f4⟩ := HK.out W (Below.refl _ _)
    go_wp2_with fail
    rw [HW0.out, HW.out]
    go_wp2_with fail
    refine HCK.out.mono ?_
    rintro e w1 ⟨rfl, b1⟩
    have HRB1 := Lib.hid (HRB.out.below' b1)
    have HB1 := Lib.hid b1
    obtain ⟨⟨r0, r1, r2, r3, r4⟩, fr0, fr1, fr2, fr3, fr4⟩ := blkFacts59 HRB1.out
    clear b1 f0 f1 f2 f3 f4
    go_wp2_with fail
    refine bodyPost_ret ((stored59 HRB1.out _ _ _ _ _).res2 rfl _ rfl Tryz.underlying43 rfl infoPg9) rfl ?_
    exact ⟨⟨none, 0, 0, none, 0, 0, none, 0, 0, none, 0, 0, none, 0, 0⟩, rfl, by rw [HN.out]; exact pgNone9 _, below5 (belowThen HBW.out HB1.out) (Nat.le_succ _) _ _ _ _ _⟩
  subst hne
  have HRW := Lib.hid (HRR.out rfl)
  have HFN := Lib.hid (HFO.out rfl)
  rw [HRW.out]
  clear HRR HRN HFO
  go_enter Tryz.func16, Tryz.ntmps16
  obtain ⟨f0, f1, f2, f3, f4⟩ := HK.out W (Below.refl _ _)
  go_wp2_with fail
  rw [HW0.out, HW.out]
  go_wp2_with fail
  refine HCK.out.mono ?_
  rintro e w1 ⟨rfl, b1⟩
  have HRB1 := Lib.hid (HRB.out.below' b1)
  have HB1 := Lib.hid b1
  clear f0 f1 f2 f3 f4
  obtain ⟨f0, f1, f2, f3, f4⟩ := HK.out w1 b1
  have HCL1 := Lib.hid (HCL.out w1 b1)
  clear b1 HCL
  go_wp2_with fail
  refine HCL1.out.mono ?_
  rintro e w2 ⟨a', rfl, b2, hc, -⟩
  have HC := Lib.hid hc
  have HB2 := Lib.hid b2
  clear f0 f1 f2 f3 f4
  obtain ⟨w3, hw3⟩ : ∃ w3, w2.alloc (.cells a'.fs 43) = w3 := ⟨_, rfl⟩
  have hb3 : Below w2.heap.size w2 w3 := by rw [← hw3]; exact belowAlloc _ _
  have hg3 : PBox w3 w2.heap.size a' := by rw [← hw3]; exact Blk.new w2 _ _
  have HG3 := Lib.hid hg3
  have HB3 := Lib.hid hb3
  have HST := Lib.hid (fun (h : 0 < a'.n4) => PpSt.start hc h b2 hb3 hg3 (Nat.le_refl _))
  have HW3 := Lib.hid hw3
  clear hw3 b2 hc hb3 hg3
  obtain ⟨D1, k1, e1, D2, k2, e2, D3, k3, e3, D4, k4, e4, D5, k5, e5⟩ := a'
  simp only [PgA.fs] at *
  have hle4 := HC.out.pg.funcs.le
  have hmx4 := HC.out.pg.funcs.max
  have hl4 := HC.out.pg.l4
  simp only at hle4 hmx4 hl4
  unfold maxLen at hmx4
  obtain ⟨f0, f1, f2, f3, f4⟩ := HG3.out.facts
  have hk4 : n4 = k4 := by rw [← HLL.out.2.2.2.1]; exact hl4
  subst hk4
  obtain ⟨-, -, -, a3, -⟩ := HK.out w3 (belowThen HB1.out (belowThen HB2.out HB3.out))
  simp only at f0 f1 f2 f3 f4
  rcases Nat.eq_zero_or_pos n4 with hz | hz
  · subst hz
    have HNIL : Hid (PgW w3 ⟨D1, k1, e1, D2, k2, e2, D3, k3, e3, D4, 0, e4, D5, k5, e5⟩ (smpP p)) := Lib.hid (by
      have h := HC.out.pg.below HB3.out
      have e : smpP p = p := by
        obtain ⟨pv, pm, pc, pf, pt⟩ := p
        cases pf with
        | nil => rfl
        | cons x t => simp at hl4
      rw [e]
      exact h)
    have HRB2 := Lib.hid (HRB1.out.below' (belowThen HB2.out HB3.out))
    go_wp2_with fail
    rw [HW3.out]
    go_wp2_with fail
    go_loopg [8] 0 (fun g i wr => i = .int .i64 0 ∧ Hid (wr = w3))
    case atStart => exact ⟨rfl, Lib.hid rfl⟩
    obtain ⟨rfl, HE⟩ := hrel
    obtain rfl := HE.out
    obtain ⟨⟨r0, r1, r2, r3, r4⟩, fr0, fr1, fr2, fr3, fr4⟩ := blkFacts59 HRB2.out
    have hz0 : ¬ ((0 : Int) < ((0 : Nat) : Int)) := by omega
    go_wp2_with fail
    refine bodyPost_ret ((stored59 HRB2.out _ _ _ _ _).res2 rfl _ rfl Tryz.underlying43 rfl infoPg9) rfl ?_
    refine ⟨⟨D1, k1, e1, D2, k2, e2, D3, k3, e3, D4, 0, e4, D5, k5, e5⟩, rfl, ?_, below5 (belowThen HBW.out (belowThen HB1.out (belowThen HB2.out HB3.out))) (Nat.le_succ _) _ _ _ _ _⟩
    exact HNIL.out.but (only9 HRB2.out) (but5 _ _ _ _ _ _ _)
  obtain ⟨b, off, hst0⟩ := HST.out hz
  have hD4 : D4 = some ⟨b, off, none⟩ := hst0.adr
  subst hD4
  have HS0 := Lib.hid hst0
  clear hst0 HST
  go_wp2_with fail
  rw [HW3.out]
  go_wp2_with fail
  go_loopg [8] n4 (fun g i wr => ∃ k : Nat, k + g = n4 ∧ i = .int .i64 k ∧ PpSt w1 w2.heap.size ⟨D1, k1, e1, D2, k2, e2, D3, k3, e3, some ⟨b, off, none⟩, n4, e4, D5, k5, e5⟩ p b off k wr)
  case atStart => exact ⟨0, by omega, rfl, HS0.out⟩
  case round =>
    obtain ⟨k, hk, rfl, hst⟩ := hrel
    have HX := Lib.hid hst
    obtain ⟨f0, f1, f2, f3, f4⟩ := hst.box.facts
    simp only at f0 f1 f2 f3 f4
    cases gk with
    | zero =>
      have hkm : k = n4 := by omega
      subst hkm
      have hjz : ¬ ((k : Int) < k) := by omega
      obtain ⟨-, -, -, a3, -⟩ := HK.out wr (belowThen HB1.out hst.bel)
      have HRB2 := Lib.hid (HRB1.out.below' hst.bel)
      obtain ⟨⟨r0, r1, r2, r3, r4⟩, fr0, fr1, fr2, fr3, fr4⟩ := blkFacts59 HRB2.out
      have HPG : Hid (PgW wr ⟨D1, k1, e1, D2, k2, e2, D3, k3, e3, some ⟨b, off, none⟩, k, e4, D5, k5, e5⟩ (smpP p)) := Lib.hid (hst.done (by omega) HC.out.pg.l1 HC.out.pg.l2 HC.out.pg.l3 hl4 HC.out.pg.l5 (by show k ≤ e4; omega) (by unfold maxLen; exact hmx4))
      clear hst
      go_wp2_with fail
      refine bodyPost_ret ((stored59 HRB2.out _ _ _ _ _).res2 rfl _ rfl Tryz.underlying43 rfl infoPg9) rfl ?_
      refine ⟨⟨D1, k1, e1, D2, k2, e2, D3, k3, e3, some ⟨b, off, none⟩, k, e4, D5, k5, e5⟩, rfl, ?_, below5 (belowThen HBW.out (belowThen HB1.out HX.out.bel)) (Nat.le_succ _) _ _ _ _ _⟩
      exact HPG.out.but (only9 HRB2.out) (but5 _ _ _ _ _ _ _)
    | succ g2 =>
      have hk0 : (0 : Int) ≤ k := by omega
      have hk1 : (k : Int) < n4 := by omega
      obtain ⟨-, -, -, a3, -⟩ := HK.out wr (belowThen HB1.out hst.bel)
      have hkl : k < p.funcs.length := by omega
      obtain ⟨h1, B, m, d, h2, h3, h4, h5⟩ := hst.at_ k hkl
      have eC : smpAt p k k hkl = p.funcs[k].2 := by unfold smpAt; rw [if_neg (Nat.lt_irrefl _)]
      rw [eC] at h3 h4
      obtain ⟨hok, _⟩ := HFN.out p.funcs[k] (List.getElem_mem hkl)
      obtain ⟨nm, hnm⟩ : ∃ nm, p.funcs[k].1 = nm := ⟨_, rfl⟩
      rw [hnm] at h1
      have HSI := Lib.hid (fun X (hX : Below wr.heap.size wr X) => rFunction nm p.funcs[k].2 hok m h3 B d X ⟨h4.below stabI hX, HWF.out _ (List.getElem_mem hkl), HLD.out X (belowThen (belowThen HB1.out hst.bel) hX)⟩)
      obtain ⟨m2, hm2⟩ : ∃ m2, (smp p.funcs[k].2).length = m2 := ⟨_, rfl⟩
      have HNX := Lib.hid (fun Y (hY : Below wr.heap.size wr Y) B' d' (hr : RdE 8 EI Y B' d' (smp p.funcs[k].2)) (hf : OffB B' m2 b) => hst.step hkl hY hnm hm2 hr hf)
      unfold GivesRf fnV at HSI
      rw [hm2] at HSI
      have HKC := Lib.hid (fun X (hX : Below wr.heap.size wr X) => ((hst.below hX).box.facts).2.2.2.1)
      simp only at HKC
      have S0 := HKC.out wr.drew ((Below.refl _ wr).drew)
      have HFZ := Lib.hid (fun X (hX : Below wr.heap.size wr X) => (by obtain ⟨cur, hc⟩ := (hst.below hX).blk; exact ⟨hc.frozen _, hc.frozen _⟩ : X.frozen? ⟨b, off + k * 2, none⟩ = false ∧ X.frozen? ⟨b, off + k * 2 + 1, none⟩ = false))
      have HCE := Lib.hid (fun X (hX : Below wr.heap.size wr X) => (by obtain ⟨q1, B', m', d', q2, _⟩ := (hst.below hX).at_ k hkl; exact ⟨⟨_, q1⟩, ⟨_, q2⟩⟩ : (∃ v, X.cell? ⟨b, off + k * 2, none⟩ = some v) ∧ ∃ v, X.cell? ⟨b, off + k * 2 + 1, none⟩ = some v))
      have HBB := Lib.hid (show w2.heap.size ≠ b from hst.ne)
      have HOF : Hid (OffB B m2 b) := Lib.hid fun h0 ad had => h5 (by rw [← h3]; have := smpLen (C := p.funcs[k].2); omega) ad had
      clear hst h3 h4 h5 eC hnm hm2 hok
      go_wp2_with fail
      clear f0 f1 f2 f3 f4 a3
      refine wp_region_held_drew (S := fun X => X.cell? ⟨w2.heap.size, 3, none⟩ = some (.slice (some ⟨b, off, none⟩) n4 e4)) (by kernel_rfl) S0 (fun hHeld => ?_)
      refine wpAnyH_take (i := 0) (oi := ⟨some 28, _, _, _, _, _⟩) (v := ?v0_0) rfl (by kernel_rfl) (by kernel_rfl) (by kernel_rfl) (fun _ _ _ h => h) (Or.inl ⟨by rfl, ?h0_0⟩) (by assumption) ?r0_0
      case h0_0 => (intro w hSw; (try dsimp only at hSw); go_simp; try with_reducible rfl)
      (try simp only [Act.put, List.setIfInBounds_toArray, List.set_cons_zero, List.set_cons_succ])
      refine wpAnyH_take (i := 1) (oi := ⟨some 29, _, _, _, _, _⟩) (v := ?v1_1) rfl (by kernel_rfl) (by kernel_rfl) (by kernel_rfl) (fun _ _ _ h => h) (Or.inl ⟨by rfl, ?h1_1⟩) (by assumption) ?r1_1
      case h1_1 => (intro w hSw; (try dsimp only at hSw); go_simp; try with_reducible rfl)
      (try simp only [Act.put, List.setIfInBounds_toArray, List.set_cons_zero, List.set_cons_succ])
      refine wpAnyH_take (i := 2) (oi := ⟨some 30, _, _, _, _, _⟩) (v := ?v2_2) rfl (by kernel_rfl) (by kernel_rfl) (by kernel_rfl) (fun _ _ _ h => h) (Or.inl ⟨by rfl, ?h2_2⟩) (by assumption) ?r2_2
      case h2_2 => (intro w hSw; (try dsimp only at hSw); go_simp; try with_reducible rfl)
      (try simp only [Act.put, List.setIfInBounds_toArray, List.set_cons_zero, List.set_cons_succ])
      refine wpAnyH_take (i := 3) (oi := ⟨some 31, _, _, _, _, _⟩) (v := ?v3_3) rfl (by kernel_rfl) (by kernel_rfl) (by kernel_rfl) (fun _ _ _ h => h) (Or.inl ⟨by rfl, ?h3_3⟩) (by assumption) ?r3_3
      case h3_3 => (intro w hSw; (try dsimp only at hSw); go_simp; try with_reducible rfl)
      (try simp only [Act.put, List.setIfInBounds_toArray, List.set_cons_zero, List.set_cons_succ])
      refine wpAnyH_take (i := 4) (oi := ⟨some 32, _, _, _, _, _⟩) (v := ?v4_4) rfl (by kernel_rfl) (by kernel_rfl) (by kernel_rfl) (fun _ _ _ h => h) (Or.inl ⟨by rfl, ?h4_4⟩) (by assumption) ?r4_4
      case h4_4 => (intro w hSw; (try dsimp only at hSw); go_simp; try with_reducible rfl)
      (try simp only [Act.put, List.setIfInBounds_toArray, List.set_cons_zero, List.set_cons_succ])
      refine wpAnyH_take (i := 5) (oi := ⟨some 33, _, _, _, _, _⟩) (v := ?v5_5) rfl (by kernel_rfl) (by kernel_rfl) (by kernel_rfl) (fun _ _ _ h => h) (Or.inl ⟨by rfl, ?h5_5⟩) (by assumption) ?r5_5
      case h5_5 => (intro w hSw; (try dsimp only at hSw); go_simp; try with_reducible rfl)
      (try simp only [Act.put, List.setIfInBounds_toArray, List.set_cons_zero, List.set_cons_succ])
      refine wpAnyH_take (i := 6) (oi := ⟨some 34, _, _, _, _, _⟩) (v := ?v6_6) rfl (by kernel_rfl) (by kernel_rfl) (by kernel_rfl) (fun _ _ _ h => h) (Or.inl ⟨by rfl, ?h6_6⟩) (by assumption) ?r6_6
      case h6_6 => (intro w hSw; (try dsimp only at hSw); go_simp; try with_reducible rfl)
      (try simp only [Act.put, List.setIfInBounds_toArray, List.set_cons_zero, List.set_cons_succ])
      refine wpAnyH_ready (rs := [7]) (by kernel_rfl) (by simp) ?_
      refine AllReadyH.cons (o := ⟨some 35, _, _, _, _, _⟩) rfl (fun K hK => ?_) (AllReadyH.nil)
      go_simp
      refine hK.out _ _ S0 (fun hHeld => ?_)
      clear hK K
      (try simp only [Act.put, List.setIfInBounds_toArray, List.set_cons_zero, List.set_cons_succ])
      refine wpAnyH_ready (rs := [8]) (by kernel_rfl) (by simp) ?_
      refine AllReadyH.cons (o := ⟨some 36, _, _, _, _, _⟩) rfl (fun K hK => ?_) (AllReadyH.nil)
      go_simp
      refine (HSI.out _ ((Below.refl _ wr).drew)).mono ?_
      rintro e w9 ⟨A9, c9, rfl, rd9, fr9, b9⟩
      have G9 := belowThen ((Below.refl _ wr).drew) b9
      obtain ⟨z1, z2⟩ := HFZ.out w9 G9
      obtain ⟨⟨y1, hy1⟩, ⟨y2, hy2⟩⟩ := HCE.out w9 G9
      have HN9 := Lib.hid (HNX.out w9 G9 A9 c9 rd9 (fun h0 ad had => fr9.elim (fun h1 => by subst h1; exact HOF.out h0 ad had) (fun h1 => by have h1 := h1 ad had; have h2 := HX.out.lt; have h3 : wr.drew.heap.size = wr.heap.size := rfl; omega)))
      try dsimp only
      refine hK.out _ _ (HKC.out _ G9) (fun hHeld => ?_)
      clear hK K
      (try simp only [Act.put, List.setIfInBounds_toArray, List.set_cons_zero, List.set_cons_succ])
      refine wpAnyH_take (i := 9) (oi := ⟨some 37, _, _, _, _, _⟩) (v := ?v9_9) rfl (by kernel_rfl) (by kernel_rfl) (by kernel_rfl) (fun _ _ _ h => h) (Or.inl ⟨by rfl, ?h9_9⟩) (by assumption) ?r9_9
      case h9_9 => (intro w hSw; (try dsimp only at hSw); go_simp; try with_reducible rfl)
      (try simp only [Act.put, List.setIfInBounds_toArray, List.set_cons_zero, List.set_cons_succ])
      refine wpAnyH_ready (rs := [10]) (by kernel_rfl) (by simp) ?_
      refine AllReadyH.cons (o := ⟨none, _, _, _, _, _⟩) rfl (fun K hK => ?_) (AllReadyH.nil)
      go_simp
      refine hK.out _ _ (HN9.out.box.facts.2.2.2.1) (fun hHeld => ?_)
      clear hK K
      (try simp only [Act.put, List.setIfInBounds_toArray, List.set_cons_zero, List.set_cons_succ])
      refine wpAnyH_done (by kernel_rfl) ?_ _
      go_wp2_with fail
      go_roundg g2
      case measure => omega
      case rel => exact ⟨k + 1, by omega, by go_num, HN9.out⟩
end Go.Proofs.YtpkagpobobmnfaaGreatDoor

namespace Go.Proofs.YtpkagpobobmnfaaGreatDoor
open Go Go.RowKit

set_option maxRecDepth 100000 in
set_option maxHeartbeats 8000000 in
theorem lawPrograms {a : PgA} {p : Prg} (w : World) (hP : PgW w a p) (hWf : p.Wf) (hL : Laid7 w) : Calls Tryz.prog 4 #[a.val] w (LawOkS w) := by
  obtain ⟨W, hW⟩ : ∃ W, w.alloc (.cells a.fs 43) = W := ⟨_, rfl⟩
  have hbW : Below w.heap.size w W := by rw [← hW]; exact belowAlloc w _
  have hk1 : PBox W w.heap.size a := by rw [← hW]; exact Blk.new w _ _
  have HBW := Lib.hid hbW
  have HW := Lib.hid hW
  have HK := Lib.hid (fun X (hX : Below W.heap.size W X) => (hk1.below hX).facts)
  have hpW := hP.below hbW
  have hLW := hL.below hbW
  have H1 := Lib.hid (rSmall15 W hpW)
  have HEX := Lib.hid (fun X (hX : Below W.heap.size W X) => exHoldsS X (hLW.below hX))
  have HP1 := Lib.hid (fun (hs : p.small = true) X (hX : Below W.heap.size W X) => iProgram X (hpW.below hX) hWf hs (hLW.below hX))
  have HP2 := Lib.hid (fun (hs : p.small = true) X (hX : Below W.heap.size W X) => rProgram15 X (hpW.below hX) hWf hs (hLW.below hX))
  unfold GivesPp at HP1 HP2
  obtain ⟨x, hx⟩ : ∃ x, p.chk.1 = x := ⟨_, rfl⟩
  obtain ⟨q, hq⟩ : ∃ q, smpR p = q := ⟨_, rfl⟩
  rw [hx, hq] at HP1 HP2
  have hxx : (x == x) = true := by simp
  clear hP hL hW hbW hk1 hpW hLW hWf hx hq
  obtain ⟨A1, n1, c1, A2, n2, c2, A3, n3, c3, A4, n4, c4, A5, n5, c5⟩ := a
  simp only [PgA.val, PgA.fs] at *
  obtain ⟨f0, f1, f2, f3, f4⟩ := HK.out W (Below.refl _ _)
  go_enter Tryz.func4, Tryz.ntmps4
  go_wp2_with fail
  rw [HW.out]
  go_wp2_with fail
  refine H1.out.mono ?_
  rintro e w1 ⟨r, rfl, hr, b1⟩
  have HB1 := Lib.hid b1
  cases r
  · clear f0 f1 f2 f3 f4 hr
    have HX1 := Lib.hid (HEX.out w1 b1)
    clear b1
    go_wp2_with fail
    refine HX1.out.mono ?_
    rintro e w2 ⟨rfl, b2⟩
    go_wp2
    go_ret
    exact ⟨rfl, belowThen HBW.out (belowThen HB1.out b2)⟩
  have hsm := hr rfl
  have HSM := Lib.hid hsm
  have HQ1 := Lib.hid (HP1.out hsm w1 b1)
  clear f0 f1 f2 f3 f4 hr hsm
  obtain ⟨f0, f1, f2, f3, f4⟩ := HK.out w1 b1
  clear b1
  go_wp2_with fail
  refine HQ1.out.mono ?_
  rintro e w2 ⟨a2, rfl, p2, b2⟩
  obtain ⟨w3, hw3⟩ : ∃ w3, w2.alloc (.cells a2.fs 43) = w3 := ⟨_, rfl⟩
  have hb3 : Below w2.heap.size w2 w3 := by rw [← hw3]; exact belowAlloc _ _
  have HO3 := Lib.hid (show PBox w3 w2.heap.size a2 by rw [← hw3]; exact Blk.new _ _ _)
  have HP3 := Lib.hid (p2.below hb3)
  have B3 := belowThen HB1.out (belowThen b2 hb3)
  have HB3 := Lib.hid B3
  have HW3 := Lib.hid hw3
  have HQ3 := Lib.hid (HP2.out HSM.out w3 B3)
  clear f0 f1 f2 f3 f4 hw3 hb3 p2 b2 HQ1
  obtain ⟨f0, f1, f2, f3, f4⟩ := HK.out w3 B3
  clear B3
  obtain ⟨D1, k1, e1, D2, k2, e2, D3, k3, e3, D4, k4, e4, D5, k5, e5⟩ := a2
  simp only [PgA.fs] at HW3
  dsimp only
  go_upto_region 4 with fail
  rw [HW3.out]
  go_wp2_with fail
  refine HQ3.out.mono ?_
  rintro e w4 ⟨a4, rfl, p4, b4⟩
  obtain ⟨w5, hw5⟩ : ∃ w5, w4.alloc (.cells a4.fs 43) = w5 := ⟨_, rfl⟩
  have hb5 : Below w4.heap.size w4 w5 := by rw [← hw5]; exact belowAlloc _ _
  have b35 := belowThen b4 hb5
  have HO5 := Lib.hid (show PBox w5 w4.heap.size a4 by rw [← hw5]; exact Blk.new _ _ _)
  have HR5 := Lib.hid (p4.below hb5)
  have HQ5 := Lib.hid (And.intro (HO3.out.below b35) (HP3.out.below b35))
  have HB5 := Lib.hid (belowThen HB3.out b35)
  have HW5 := Lib.hid hw5
  clear f0 f1 f2 f3 f4 hw5 hb5 p4 b4 b35
  obtain ⟨E1, l1, g1, E2, l2, g2, E3, l3, g3, E4, l4, g4, E5, l5, g5⟩ := a4
  simp only [PgA.fs] at HW5
  dsimp only
  obtain ⟨u0, u1, u2, u3, u4⟩ := HQ5.out.1.facts
  obtain ⟨v0, v1, v2, v3, v4⟩ := HO5.out.facts
  simp only at u0 u1 u2 u3 u4 v0 v1 v2 v3 v4
  have HE1 := Lib.hid (rEqual w5 HQ5.out.2 HR5.out)
  rw [eqPSelf] at HE1
  simp only [PgA.val, PgA.fs] at HE1
  go_upto_region 5 with fail
  rw [HW5.out]
  go_wp2_with fail
  refine HE1.out.mono ?_
  rintro e w6 ⟨rfl, b6⟩
  have HB6 := Lib.hid (belowThen HB5.out b6)
  have HX6 := Lib.hid (HEX.out w6 HB6.out)
  clear u0 u1 u2 u3 u4 v0 v1 v2 v3 v4 b6
  go_wp2_with fail
  refine HX6.out.mono ?_
  rintro e w7 ⟨rfl, b7⟩
  go_wp2
  go_ret
  exact ⟨rfl, belowThen HBW.out (belowThen HB6.out b7)⟩
end Go.Proofs.YtpkagpobobmnfaaGreatDoor
