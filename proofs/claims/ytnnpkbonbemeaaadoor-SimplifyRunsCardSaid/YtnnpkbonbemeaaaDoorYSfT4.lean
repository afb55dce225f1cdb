/-
  The law SimplifyRuns returns true for every function, registers and results, where the tables are laid.
-/
import Derived.Test.YtnnpkbonbemeaaaDoorYSfAl
import Derived.Test.YtnnpkbonbemeaaaDoorYSfIf
import Derived.Test.YtnnpkbonbemeaaaDoorYSfQf
import Derived.Test.YtnnpkbonbemeaaaDoorYSe
namespace Go.Proofs.YtnnpkbonbemeaaaDoor
open Go Go.RowKit Go.Maps

theorem rdI8Chg {w X : World} {A : Option Addr} {c g : Nat} {l : List I8} (h : RdE 8 EI w A c l) (hf : ∀ ad, A = some ad → g < ad.block) (hc : Chg w X (fun q => q ≠ g)) : RdE 8 EI X A c l := by
  refine ⟨h.le, h.max, fun hn => ?_⟩
  obtain ⟨b, off, eA, hb, h9⟩ := h.at_ hn
  have hk := hc.block b hb (show b ≠ g by have := hf _ eA; exact Nat.ne_of_gt this)
  exact ⟨b, off, eA, Nat.lt_of_lt_of_le hb hc.size, fun j hj => (fun (h : EI w b (off + j * 8) l[j]) => (⟨(World.cell?_of_block hk).trans h.c0, (World.cell?_of_block hk).trans h.c1, (World.cell?_of_block hk).trans h.c2, (World.cell?_of_block hk).trans h.c3, (World.cell?_of_block hk).trans h.c4, (World.cell?_of_block hk).trans h.c5, (World.cell?_of_block hk).trans h.c6, (World.cell?_of_block hk).trans h.c7⟩ : EI X b (off + j * 8) l[j])) (h9 j hj)⟩
set_option maxRecDepth 100000 in
set_option maxHeartbeats 16000000 in
theorem lawRuns (nm : ByteArray) (C : List I8) (n : Nat) (hn : C.length = n) (A : Option Addr) (c : Nat) (R : Rgs) (L : List Int) (l : Nat) (hl : L.length = l) (E : Option Addr) (e : Nat) (w : World) (h : CdW w A c C) (hL : Rd w E e L) :
    Calls Tryd.prog 6 #[fnV nm A n c, .agg (rgC R), .slice E l e] w (LawOkS w) := by
  obtain ⟨W, hW⟩ : ∃ W, (w.alloc (.cells #[.string nm, .slice A n c] 42)).alloc (.cells #[.int .i64 (R 0), .int .i64 (R 1), .int .i64 (R 2), .int .i64 (R 3), .int .i64 (R 4), .int .i64 (R 5), .int .i64 (R 6), .int .i64 (R 7)] 28) = W := ⟨_, rfl⟩
  obtain ⟨h1, h2, hbW, hsz⟩ := two8 w _ _ hW
  have hB1 : Blk W w.heap.size 42 #[.string nm, .slice A n c] := h1
  have hB2 : Blk W (w.heap.size + 1) 28 (rgC R) := h2
  have HSZ := Lib.hid hsz
  have k0 : W.cell? ⟨w.heap.size, 0, none⟩ = some (.string nm) := hB1.cell 0
  have k1 : W.cell? ⟨w.heap.size, 1, none⟩ = some (.slice A n c) := hB1.cell 1
  have hcd := h.below hbW
  have HEX := Lib.hid (fun X (hX : Below W.heap.size W X) => exHoldsS X (hcd.ld.below hX))
  have HF1 := Lib.hid (iFoldFF nm C n hn A c W hcd)
  have HF2 := Lib.hid (fun X (hX : Below W.heap.size W X) => iThreadFF nm C n hn A c X (hcd.below hX))
  have HF3 := Lib.hid (fun X (hX : Below W.heap.size W X) => iPruneFF nm C n hn A c X (hcd.below hX))
  have HK := Lib.hid (fun X (hX : Below W.heap.size W X) => (⟨(hB1.below' hX).cell 0, (hB1.below' hX).cell 1⟩ : X.cell? ⟨w.heap.size, 0, none⟩ = some (.string nm) ∧ X.cell? ⟨w.heap.size, 1, none⟩ = some (.slice A n c)))
  have HBX1 := Lib.hid hB1
  have HBX2 := Lib.hid hB2
  have HW := Lib.hid hW
  have HBW := Lib.hid hbW
  have hle := h.rd.le
  have hmx := h.rd.max
  rw [hn] at hle
  unfold maxLen at hmx
  have hle2 := hL.le
  have hmx2 := hL.max
  rw [hl] at hle2
  unfold maxLen at hmx2
  unfold GivesFnF fnV at HF1 HF2 HF3
  unfold fnV rgC
  clear h1 h2 hB1 hB2 hW hbW hsz hcd
  by_cases hbig : 20 < n
  · have d1 : decide ((20 : Int) < (n : Int)) = true := decide_eq_true (by omega)
    have HX := Lib.hid (HEX.out W (Below.refl _ _))
    clear HF1 HF2 HF3 h hL hn hl
    go_enter Tryd.func6, Tryd.ntmps6
    go_upto_region 1 with fail
    rw [HW.out]
    go_wp2_with fail
    all_goals first
      | (exfalso; omega)
      | skip
    refine HX.out.mono ?_
    rintro e1 w2 ⟨rfl, b2⟩
    go_wp2
    go_ret
    exact ⟨rfl, belowThen HBW.out b2⟩
  have d1 : decide ((20 : Int) < (n : Int)) = false := decide_eq_false (by omega)
  by_cases hbig2 : 8 < l
  · have d2 : decide ((8 : Int) < (l : Int)) = true := decide_eq_true (by omega)
    have HX := Lib.hid (HEX.out W (Below.refl _ _))
    clear HF1 HF2 HF3 h hL hn hl
    go_enter Tryd.func6, Tryd.ntmps6
    go_upto_region 1 with fail
    rw [HW.out]
    go_wp2_with fail
    all_goals first
      | (exfalso; omega)
      | skip
    refine HX.out.mono ?_
    rintro e1 w2 ⟨rfl, b2⟩
    go_wp2
    go_ret
    exact ⟨rfl, belowThen HBW.out b2⟩
  have d2 : decide ((8 : Int) < (l : Int)) = false := decide_eq_false (by omega)
  by_cases hc : cfE C = 0
  rotate_left
  · rw [nmR1 hc, cdR1 hc] at HF1 HF2 HF3
    have hne : (cfE C != 0) = true := by simpa using hc
    have hee : (cfE C == cfE C) = true := by simp
    simp only [List.length_nil] at HF1 HF2 HF3
    generalize cfE C = er at HF1 HF2 HF3 hne hee
    clear hc h hL hn hl
    go_enter Tryd.func6, Tryd.ntmps6
    go_upto_region 1 with fail
    rw [HW.out]
    go_wp2_with fail
    refine HF1.out.mono ?_
    rintro e1 w1 ⟨A1, c1, rfl, -, b1⟩
    obtain ⟨w2, hw2⟩ : ∃ w2, w1.alloc (.cells #[.string ⟨#[]⟩, .slice A1 0 c1] 42) = w2 := ⟨_, rfl⟩
    have HB2 := Lib.hid (belowThen b1 (show Below w1.heap.size w1 w2 by rw [← hw2]; exact belowAlloc _ _))
    have HW2 := Lib.hid hw2
    clear k0 k1 b1 hw2
    obtain ⟨k0, k1⟩ := HK.out w2 HB2.out
    go_upto_region 4 with fail
    rw [HW2.out]
    go_wp2_with fail
    refine (HF2.out w2 HB2.out).mono ?_
    rintro e1 w3 ⟨A3, c3, rfl, -, b3⟩
    obtain ⟨w4, hw4⟩ : ∃ w4, w3.alloc (.cells #[.string ⟨#[]⟩, .slice A3 0 c3] 42) = w4 := ⟨_, rfl⟩
    have HB4 := Lib.hid (belowThen HB2.out (belowThen b3 (show Below w3.heap.size w3 w4 by rw [← hw4]; exact belowAlloc _ _)))
    have HW4 := Lib.hid hw4
    clear k0 k1 b3 hw4
    obtain ⟨k0, k1⟩ := HK.out w4 HB4.out
    go_upto_region 5 with fail
    rw [HW4.out]
    go_wp2_with fail
    refine (HF3.out w4 HB4.out).mono ?_
    rintro e1 w5 ⟨A5, c5, rfl, -, b5⟩
    obtain ⟨w6, hw6⟩ : ∃ w6, w5.alloc (.cells #[.string ⟨#[]⟩, .slice A5 0 c5] 42) = w6 := ⟨_, rfl⟩
    have HB6 := Lib.hid (belowThen HB4.out (belowThen b5 (show Below w5.heap.size w5 w6 by rw [← hw6]; exact belowAlloc _ _)))
    have HW6 := Lib.hid hw6
    have HX := Lib.hid (HEX.out w6 HB6.out)
    clear k0 k1 b5 hw6
    go_upto_region 6 with fail
    rw [HW6.out]
    go_wp2_with fail
    refine HX.out.mono ?_
    rintro e1 w7 ⟨rfl, b7⟩
    go_wp2
    go_ret
    exact ⟨rfl, belowThen HBW.out (belowThen HB6.out b7)⟩
  have hok := cfOk hc
  rw [nmR0 hc, cdR0 hc, hc] at HF1 HF2 HF3
  have HCF := Lib.hid (cfMk (fdOk hok))
  have HCT := Lib.hid (cfMk (thOk hok))
  have HCP := Lib.hid (cfMk (prOk hok))
  have lF : (fdL C).length = n := by rw [fdLLen]; exact hn
  have lT : (thL C).length = n := by rw [thLen]; exact hn
  obtain ⟨m, lP⟩ : ∃ m, (prL C).length = m := ⟨_, rfl⟩
  have HAF := Lib.hid (fun A1 c1 R X (hX : Below w.heap.size w X) (hr : RdE 8 EI X A1 c1 (fdL C)) => rAlike nm C (fdL C) hok (fdOk hok) n n hn lF A A1 c c1 _ (fdSim hok) R L l hl E e X (h.rd.below stabI hX) hr (hL.below hX))
  have HAT := Lib.hid (fun A1 c1 R X (hX : Below w.heap.size w X) (hr : RdE 8 EI X A1 c1 (thL C)) => rAlike nm C (thL C) hok (thOk hok) n n hn lT A A1 c c1 _ (thSim C) R L l hl E e X (h.rd.below stabI hX) hr (hL.below hX))
  have HAP := Lib.hid (fun A1 c1 R X (hX : Below w.heap.size w X) (hr : RdE 8 EI X A1 c1 (prL C)) => rAlike nm C (prL C) hok (prOk hok) n m hn lP A A1 c c1 _ (prSim hok) R L l hl E e X (h.rd.below stabI hX) hr (hL.below hX))
  have HKF := Lib.hid (fun A1 c1 X (hX : Below w.heap.size w X) (hr : RdE 8 EI X A1 c1 (fdL C)) => rChk15 nm (fdL C) n lF A1 c1 X ⟨hr, fdWfL hok h.wf, h.ld.below hX⟩)
  have HKT := Lib.hid (fun A1 c1 X (hX : Below w.heap.size w X) (hr : RdE 8 EI X A1 c1 (thL C)) => rChk15 nm (thL C) n lT A1 c1 X ⟨hr, thWf hok h.wf, h.ld.below hX⟩)
  have HKP := Lib.hid (fun A1 c1 X (hX : Below w.heap.size w X) (hr : RdE 8 EI X A1 c1 (prL C)) => rChk15 nm (prL C) m lP A1 c1 X ⟨hr, prWf hok h.wf, h.ld.below hX⟩)
  have HEW := Lib.hid (fun X (hX : Below w.heap.size w X) => exHoldsS X (h.ld.below hX))
  rw [HCF.out] at HKF
  rw [HCT.out] at HKT
  rw [HCP.out] at HKP
  rw [lF] at HF1
  rw [lT] at HF2
  rw [lP] at HF3
  unfold fnV at HAF HAT HAP HKF HKT HKP
  unfold rgC at HAF HAT HAP
  generalize fdL C = DF at *
  generalize thL C = DT at *
  generalize prL C = DP at *
  clear HCF HCT HCP lF lT lP hok hc h hL hn hl HEX
  go_enter Tryd.func6, Tryd.ntmps6
  go_upto_region 1 with fail
  rw [HW.out]
  go_wp2_with fail
  refine HF1.out.mono ?_
  rintro e1 w1 ⟨A1, c1, rfl, ⟨rd1, fr1⟩, b1⟩
  obtain ⟨w2, hw2⟩ : ∃ w2, w1.alloc (.cells #[.string nm, .slice A1 n c1] 42) = w2 := ⟨_, rfl⟩
  have b12 : Below w1.heap.size w1 w2 := by rw [← hw2]; exact belowAlloc _ _
  have HB2 := Lib.hid (belowThen b1 b12)
  have HBA := Lib.hid (show Blk w2 w1.heap.size 42 #[.string nm, .slice A1 n c1] by rw [← hw2]; exact Blk.new _ _ _)
  have HR1 := Lib.hid (rd1.below stabI b12)
  have HFR1 := Lib.hid fr1
  have HS1 := Lib.hid b1.size
  have HW2 := Lib.hid hw2
  clear k0 k1 b1 hw2 b12 rd1 fr1
  obtain ⟨k0, k1⟩ := HK.out w2 HB2.out
  go_upto_region 4 with fail
  rw [HW2.out]
  go_wp2_with fail
  refine (HF2.out w2 HB2.out).mono ?_
  rintro e1 w3 ⟨A3, c3, rfl, ⟨rd3, fr3⟩, b3⟩
  obtain ⟨w4, hw4⟩ : ∃ w4, w3.alloc (.cells #[.string nm, .slice A3 n c3] 42) = w4 := ⟨_, rfl⟩
  have b34 : Below w3.heap.size w3 w4 := by rw [← hw4]; exact belowAlloc _ _
  have b24 := belowThen b3 b34
  have HB24 := Lib.hid b24
  have HB4 := Lib.hid (belowThen HB2.out b24)
  have HBB := Lib.hid (show Blk w4 w3.heap.size 42 #[.string nm, .slice A3 n c3] by rw [← hw4]; exact Blk.new _ _ _)
  have HR3 := Lib.hid (rd3.below stabI b34)
  have HFR3 := Lib.hid fr3
  have HS3 := Lib.hid b3.size
  have HW4 := Lib.hid hw4
  clear k0 k1 b3 hw4 b34 b24 rd3 fr3
  obtain ⟨k0, k1⟩ := HK.out w4 HB4.out
  go_upto_region 5 with fail
  rw [HW4.out]
  go_wp2_with fail
  refine (HF3.out w4 HB4.out).mono ?_
  rintro e1 w5 ⟨A5, c5, rfl, ⟨rd5, fr5⟩, b5⟩
  obtain ⟨w6, hw6⟩ : ∃ w6, w5.alloc (.cells #[.string nm, .slice A5 m c5] 42) = w6 := ⟨_, rfl⟩
  have b56 : Below w5.heap.size w5 w6 := by rw [← hw6]; exact belowAlloc _ _
  have b46 := belowThen b5 b56
  have HB46 := Lib.hid b46
  have HB6 := Lib.hid (belowThen HB4.out b46)
  have HBC := Lib.hid (show Blk w6 w5.heap.size 42 #[.string nm, .slice A5 m c5] by rw [← hw6]; exact Blk.new _ _ _)
  have HR5 := Lib.hid (rd5.below stabI b56)
  have HFR5 := Lib.hid fr5
  have HS5 := Lib.hid b5.size
  have HW6 := Lib.hid hw6
  have HBR6 := Lib.hid (HBX2.out.below' HB6.out)
  clear k0 k1 b5 hw6 b56 b46 rd5 fr5
  go_upto_region 6 with fail
  rw [HW6.out]
  go_wp2_with fail
  go_loopg [60] 8 (fun g i X => ∃ (k : Nat) (R2 : Rgs), k + g = 8 ∧ i = .int .i64 k ∧ Hid (Chg w6 X (fun q => q ≠ w.heap.size + 1)) ∧ Hid (Blk X (w.heap.size + 1) 28 (rgC R2)))
  case atStart => exact ⟨0, R, by omega, rfl, Lib.hid (Chg.refl _ _), HBR6⟩
  case round =>
    obtain ⟨k, R2, hk, rfl, HC, HRB⟩ := hrel
    cases gk with
    | succ g2 =>
      have hk8 : k < 8 := by omega
      have hk0 : (0 : Int) ≤ k := by omega
      have hk1 : (k : Int) < 8 := by omega
      have ka := (HRB.out.cell k).trans (rgCAt R2 hk8)
      have fa := HRB.out.frozen k
      have HWR := Lib.hid (fun X => rWrap (R2 (k : Int)) X)
      obtain ⟨vw, hvw⟩ : ∃ x, wrap32 (R2 (k : Int)) = x := ⟨_, rfl⟩
      rw [hvw] at HWR
      have HC2 := Lib.hid (HC.out.trans (chgSetF wr (w.heap.size + 1) k (.int .i64 vw)) fun _ _ h => h)
      have HRB2 : Hid (Blk (wr.setCell ⟨w.heap.size + 1, k, none⟩ (.int .i64 vw)) (w.heap.size + 1) 28 (rgC (upR R2 (k : Int) vw))) := Lib.hid (by have := HRB.out.set k (.int .i64 vw); rwa [rgPut R2 hk8] at this)
      clear hvw
      go_wp2_with fail
      refine (HWR.out _).mono ?_
      rintro e1 w66 ⟨rfl, rfl⟩
      go_wp2_with fail
      go_roundg g2
      case measure => omega
      case rel => exact ⟨k + 1, _, by omega, by go_num, HC2, HRB2⟩
    | zero =>
      have hk8 : k = 8 := by omega
      subst hk8
      have hs6 := HSZ.out
      have hs1 := HS1.out
      have hs3 := HS3.out
      have hs5 := HS5.out
      have hsa := HB2.out.size
      have hsb := HB24.out.size
      have hsc := HB46.out.size
      have hlt2 := HBA.out.lt
      have hlt4 := HBB.out.lt
      have hlt6 := HBC.out.lt
      have hcb : Below w.heap.size w wr := belChgF (belowThen HBW.out HB6.out) HC.out (by omega) fun q hq => (show q ≠ w.heap.size + 1 by omega)
      have HCB := Lib.hid (fun Y (hY : Below wr.heap.size wr Y) => belowThen hcb hY)
      have hd1 := rdI8Chg (HR1.out.below stabI (belowThen HB24.out HB46.out)) (g := w.heap.size + 1) (fun ad e => by have := HFR1.out ad e; omega) HC.out
      have hd3 := rdI8Chg (HR3.out.below stabI HB46.out) (g := w.heap.size + 1) (fun ad e => by have := HFR3.out ad e; omega) HC.out
      have hd5 := rdI8Chg HR5.out (g := w.heap.size + 1) (fun ad e => by have := HFR5.out ad e; omega) HC.out
      have HD1 := Lib.hid (fun Y (hY : Below wr.heap.size wr Y) => hd1.below stabI hY)
      have HD3 := Lib.hid (fun Y (hY : Below wr.heap.size wr Y) => hd3.below stabI hY)
      have HD5 := Lib.hid (fun Y (hY : Below wr.heap.size wr Y) => hd5.below stabI hY)
      have hbf := (HBX1.out.below' HB6.out).chg9 HC.out (show w.heap.size ≠ w.heap.size + 1 by omega)
      have hba := (HBA.out.below' (belowThen HB24.out HB46.out)).chg9 HC.out (show w1.heap.size ≠ w.heap.size + 1 by omega)
      have hbb := (HBB.out.below' HB46.out).chg9 HC.out (show w3.heap.size ≠ w.heap.size + 1 by omega)
      have hbc := HBC.out.chg9 HC.out (show w5.heap.size ≠ w.heap.size + 1 by omega)
      have hbr := HRB.out
      have HKY := Lib.hid (fun Y (hY : Below wr.heap.size wr Y) => (⟨(hbf.below' hY).cell 0, (hbf.below' hY).cell 1, (hba.below' hY).cell 0, (hba.below' hY).cell 1, (hbb.below' hY).cell 0, (hbb.below' hY).cell 1, (hbc.below' hY).cell 0, (hbc.below' hY).cell 1, (hbr.below' hY).cell 0, (hbr.below' hY).cell 1, (hbr.below' hY).cell 2, (hbr.below' hY).cell 3, (hbr.below' hY).cell 4, (hbr.below' hY).cell 5, (hbr.below' hY).cell 6, (hbr.below' hY).cell 7⟩ : Y.cell? ⟨w.heap.size, 0, none⟩ = some (.string nm) ∧ Y.cell? ⟨w.heap.size, 1, none⟩ = some (.slice A n c) ∧ Y.cell? ⟨w1.heap.size, 0, none⟩ = some (.string nm) ∧ Y.cell? ⟨w1.heap.size, 1, none⟩ = some (.slice A1 n c1) ∧ Y.cell? ⟨w3.heap.size, 0, none⟩ = some (.string nm) ∧ Y.cell? ⟨w3.heap.size, 1, none⟩ = some (.slice A3 n c3) ∧ Y.cell? ⟨w5.heap.size, 0, none⟩ = some (.string nm) ∧ Y.cell? ⟨w5.heap.size, 1, none⟩ = some (.slice A5 m c5) ∧ Y.cell? ⟨w.heap.size + 1, 0, none⟩ = some (.int .i64 (R2 0)) ∧ Y.cell? ⟨w.heap.size + 1, 1, none⟩ = some (.int .i64 (R2 1)) ∧ Y.cell? ⟨w.heap.size + 1, 2, none⟩ = some (.int .i64 (R2 2)) ∧ Y.cell? ⟨w.heap.size + 1, 3, none⟩ = some (.int .i64 (R2 3)) ∧ Y.cell? ⟨w.heap.size + 1, 4, none⟩ = some (.int .i64 (R2 4)) ∧ Y.cell? ⟨w.heap.size + 1, 5, none⟩ = some (.int .i64 (R2 5)) ∧ Y.cell? ⟨w.heap.size + 1, 6, none⟩ = some (.int .i64 (R2 6)) ∧ Y.cell? ⟨w.heap.size + 1, 7, none⟩ = some (.int .i64 (R2 7))))
      obtain ⟨k0, k1, p0, p1, q0, q1, y0, y1, r0, r1, r2, r3, r4, r5, r6, r7⟩ := HKY.out wr (Below.refl _ _)
      clear hs6 hs1 hs3 hs5 hsa hsb hsc hlt2 hlt4 hlt6 hcb hd1 hd3 hd5 hbf hba hbb hbc hbr
      go_wp2_with fail
      refine (HKF.out A1 c1 wr (HCB.out wr (Below.refl _ _)) (HD1.out wr (Below.refl _ _))).mono ?_
      rintro e1 w11 ⟨rfl, b⟩
      have b11 := b
      clear b
      clear k0 k1 p0 p1 q0 q1 y0 y1 r0 r1 r2 r3 r4 r5 r6 r7
      obtain ⟨k0, k1, p0, p1, q0, q1, y0, y1, r0, r1, r2, r3, r4, r5, r6, r7⟩ := HKY.out w11 b11
      go_wp2_with fail
      refine (HKT.out A3 c3 w11 (HCB.out w11 b11) (HD3.out w11 b11)).mono ?_
      rintro e1 w12 ⟨rfl, b⟩
      have b12 := belowThen b11 b
      clear b
      clear k0 k1 p0 p1 q0 q1 y0 y1 r0 r1 r2 r3 r4 r5 r6 r7
      obtain ⟨k0, k1, p0, p1, q0, q1, y0, y1, r0, r1, r2, r3, r4, r5, r6, r7⟩ := HKY.out w12 b12
      go_wp2_with fail
      refine (HKP.out A5 c5 w12 (HCB.out w12 b12) (HD5.out w12 b12)).mono ?_
      rintro e1 w13 ⟨rfl, b⟩
      have b13 := belowThen b12 b
      clear b
      clear k0 k1 p0 p1 q0 q1 y0 y1 r0 r1 r2 r3 r4 r5 r6 r7
      obtain ⟨k0, k1, p0, p1, q0, q1, y0, y1, r0, r1, r2, r3, r4, r5, r6, r7⟩ := HKY.out w13 b13
      go_wp2_with fail
      refine (HAF.out A1 c1 R2 w13 (HCB.out w13 b13) (HD1.out w13 b13)).mono ?_
      rintro e1 w14 ⟨rfl, b⟩
      have b14 := belowThen b13 b
      clear b
      clear k0 k1 p0 p1 q0 q1 y0 y1 r0 r1 r2 r3 r4 r5 r6 r7
      obtain ⟨k0, k1, p0, p1, q0, q1, y0, y1, r0, r1, r2, r3, r4, r5, r6, r7⟩ := HKY.out w14 b14
      go_wp2_with fail
      refine (HAT.out A3 c3 R2 w14 (HCB.out w14 b14) (HD3.out w14 b14)).mono ?_
      rintro e1 w15 ⟨rfl, b⟩
      have b15 := belowThen b14 b
      clear b
      clear k0 k1 p0 p1 q0 q1 y0 y1 r0 r1 r2 r3 r4 r5 r6 r7
      obtain ⟨k0, k1, p0, p1, q0, q1, y0, y1, r0, r1, r2, r3, r4, r5, r6, r7⟩ := HKY.out w15 b15
      go_wp2_with fail
      refine (HAP.out A5 c5 R2 w15 (HCB.out w15 b15) (HD5.out w15 b15)).mono ?_
      rintro e1 w16 ⟨rfl, b⟩
      have b16 := belowThen b15 b
      clear b
      clear k0 k1 p0 p1 q0 q1 y0 y1 r0 r1 r2 r3 r4 r5 r6 r7
      obtain ⟨k0, k1, p0, p1, q0, q1, y0, y1, r0, r1, r2, r3, r4, r5, r6, r7⟩ := HKY.out w16 b16
      go_wp2_with fail
      refine (HEW.out w16 (HCB.out w16 b16)).mono ?_
      rintro e1 w17 ⟨rfl, b⟩
      have b17 := belowThen b16 b
      clear b
      go_wp2
      go_ret
      exact ⟨rfl, HCB.out _ b17⟩
end Go.Proofs.YtnnpkbonbemeaaaDoor
