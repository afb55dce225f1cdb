/-
  The contract of disasm.Program.
-/
import Derived.Test.YtnckpjcfgeajbaaGreatDoorZmD
namespace Go.Proofs.YtnckpjcfgeajbaaGreatDoor
open Go Go.RowKit

set_option maxRecDepth 100000 in
set_option maxHeartbeats 16000000 in
theorem dProg {a : PgA} {p : Prg} (w : World) (hP : PgW w a p) (hW : p.Wf) (hL : LaidD w) : Calls Tryz.prog 22 #[a.val] w fun e w' => e = gvW p.disR ∧ Below w.heap.size w w' := by
  obtain ⟨W, hWE⟩ : ∃ W, w.alloc (.cells a.fs 28) = W := ⟨_, rfl⟩
  have hbW : Below w.heap.size w W := by rw [← hWE]; exact belowAlloc w _
  have hB : PBox W w.heap.size a := by rw [← hWE]; exact Blk.new w _ _
  have HCK := Lib.hid (fun X (hX : PgW X a p) (hT : InsT X) (hN : Nm X) => iCheckP X hX hW hT hN)
  obtain ⟨r, hr⟩ : ∃ r, p.disR = r := ⟨_, rfl⟩
  rw [hr]
  have HR1 : Hid (p.chk.1 ≠ 0 → r = .no p.chk.1) := Lib.hid fun h => by rw [← hr, Prg.disR, if_pos h]
  have HR2 : Hid (p.chk.1 = 0 → 16384 < p.txt.length → r = .no 4) := Lib.hid fun h h2 => by rw [← hr, Prg.disR, if_neg (by simpa using h), if_pos h2]
  have HR3 : Hid (p.chk.1 = 0 → ¬ 16384 < p.txt.length → r = .ok p.txt) := Lib.hid fun h h2 => by rw [← hr, Prg.disR, if_neg (by simpa using h), if_neg h2]
  obtain ⟨k1, k2, k3, hchk⟩ : ∃ k1 k2 k3, p.chk = (k1, k2, k3) := ⟨_, _, _, rfl⟩
  have HVL : Hid (k1 = 0 → p.Vld) := Lib.hid fun h => p.vld (by rw [hchk]; exact h)
  rw [hchk] at HR1 HR2 HR3
  simp only at HR1 HR2 HR3
  simp only [hchk, err3] at HCK
  have HPF := Lib.hid hW
  have HL := Lib.hid (fun X (hX : Below W.heap.size W X) => (hL.below hbW).below hX)
  have HP := Lib.hid (fun X (hX : Below W.heap.size W X) => (hP.below hbW).below hX)
  have HKB := Lib.hid hB
  have HN1 := Lib.hid hP.l1
  have HN2 := Lib.hid hP.l2
  have HN3 := Lib.hid hP.l3
  have HN4 := Lib.hid hP.l4
  have HN5 := Lib.hid hP.l5
  have m1 := hP.vars.max
  have m2 := hP.muts.max
  have m3 := hP.conds.max
  have m4 := hP.funcs.max
  have m5 := hP.thr.max
  have e1 := hP.vars.le
  have e2 := hP.muts.le
  have e3 := hP.conds.le
  have e4 := hP.funcs.le
  have e5 := hP.thr.le
  rw [hP.l1] at e1
  rw [hP.l2] at e2
  rw [hP.l3] at e3
  rw [hP.l4] at e4
  rw [hP.l5] at e5
  unfold maxLen at m1 m2 m3 m4 m5
  obtain ⟨b0, hb0⟩ : ∃ b0, w.heap.size = b0 := ⟨_, rfl⟩
  have HBW := Lib.hid hbW
  have HB0 := Lib.hid hb0
  have HWE := Lib.hid hWE
  obtain ⟨A1, n1, c1, A2, n2, c2, A3, n3, c3, A4, n4, c4, A5, n5, c5⟩ := a
  simp only [PgA.val, PgA.fs] at *
  have HK : Hid (∀ X, Below W.heap.size W X → X.cell? ⟨b0, 0, none⟩ = some (.slice A1 n1 c1) ∧ X.cell? ⟨b0, 1, none⟩ = some (.slice A2 n2 c2) ∧ X.cell? ⟨b0, 2, none⟩ = some (.slice A3 n3 c3) ∧ X.cell? ⟨b0, 3, none⟩ = some (.slice A4 n4 c4) ∧ X.cell? ⟨b0, 4, none⟩ = some (.slice A5 n5 c5)) := by
    refine Lib.hid fun X hX => ?_
    obtain ⟨g0, g1, g2, g3, g4⟩ := (HKB.out.below hX).facts
    rw [hb0] at g0 g1 g2 g3 g4
    exact ⟨g0, g1, g2, g3, g4⟩
  clear hP hL hB hbW hWE hb0 HKB hr hchk hW
  go_enter Tryz.func22, Tryz.ntmps22
  go_wp2_with fail
  rw [HWE.out]
  rw [HB0.out]
  obtain ⟨k0, k1', k2', k3', k4⟩ := HK.out W (Below.refl _ _)
  by_cases hk1 : k1 = 0
  · subst hk1
    have HVLD := Lib.hid (HVL.out (by first | trivial | rfl))
    clear HVL HR1
    go_wp2_with fail
    refine (HCK.out _ (HP.out _ (Below.refl _ _)) (HL.out _ (Below.refl _ _)).ins (HL.out _ (Below.refl _ _)).nm).mono ?_
    rintro e w1 ⟨rfl, b1'⟩
    have HS1 := Lib.hid b1'
    have HQ := Lib.hid (fun X (hX : Below w1.heap.size w1 X) => belowThen HS1.out hX)
    have HNB := Lib.hid (newBuilder w1)
    have HAB := Lib.hid (belowAlloc w1 (.cells #[.pointer none, .slice none 0 0] 105))
    clear b1' k0 k1' k2' k3' k4 HCK
    obtain ⟨k0, k1', k2', k3', k4⟩ := HK.out _ (HQ.out _ HAB.out)
    go_wp2
    go_loopw [36] (fun i wr => ∃ k : Nat, k ≤ n1 ∧ i = .int .i64 k ∧ IsB w1.heap.size w1.heap.size (p.tA k 0 0 0 0) wr ∧ Below w1.heap.size w1 wr) (fun i _ => n1 - (intOf i).toNat)
    case atStart => exact ⟨0, Nat.zero_le _, rfl, HNB.out, HAB.out⟩
    case round =>
      clear k0 k1' k2' k3' k4
      obtain ⟨k, hk, rfl, hu, hb⟩ := hrel
      have HU := Lib.hid hu
      clear hu
      obtain ⟨k0, k1', k2', k3', k4⟩ := HK.out wr (HQ.out wr hb)
      by_cases hlt : k < n1
      · have hkl : k < p.vars.length := by rw [HN1.out]; exact hlt
        have HKL := Lib.hid hkl
        obtain ⟨q, off, hA, _, h1, h2⟩ := (HP.out wr (HQ.out wr hb)).vars.one hkl
        have hA : A1 = _ := hA
        subst hA
        have hk0 : (0 : Int) ≤ k := by omega
        have hkn : (k : Int) < n1 := by omega
        have hval := HVLD.out.iv _ (List.getElem_mem hkl)
        have hI64 : In64 (p.vars[k]).2 := by
          simp only [isVal, Bool.and_eq_true, decide_eq_true_eq] at hval
          exact ⟨by omega, by omega⟩
        have HVF := Lib.hid (fun X (hX : Below w1.heap.size w1 X) => vForm (p.vars[k]).2 _ rfl hI64.1 hI64.2 X (HL.out X (HQ.out X hX)).tb)
        have HLN := Lib.hid (fun X (hU : IsB w1.heap.size w1.heap.size (p.tA k 0 0 0 0) X) (hX : Below w1.heap.size w1 X) => dLit3 w1.heap.size w1.heap.size (p.tA k 0 0 0 0) _ _ _ _ X (lVarIs p.vars[k]) (Nat.le_trans (lVarLen HVLD.out _ (List.getElem_mem hkl)) (by decide)) hU (Nat.le_trans (tALen HVLD.out HPF.out _ _ _ _ _) (by decide)) hX.size |>.mono (GivesX.of (tAv hkl) X))
        generalize (⟨(Lib.itoa (p.vars[k]).2).toArray⟩ : ByteArray) = it at *
        generalize (p.vars[k]).1 = s at h1 HLN
        generalize (p.vars[k]).2 = x at h2 HVF
        have hne : w1.heap.size ≠ wr.heap.size := by
          have := HU.out.elim (fun x => x.lt) (fun x => x.lt)
          omega
        have HXB := Lib.hid (Blk.new wr 56 #[.string s, .int .i64 x])
        have HXA := Lib.hid (belowAlloc wr (.cells #[.string s, .int .i64 x] 56))
        obtain ⟨U, hUE⟩ : ∃ U, wr.alloc (.cells #[.string s, .int .i64 x] 56) = U := ⟨_, rfl⟩
        rw [hUE] at HXB HXA
        have HUE := Lib.hid hUE
        have hdr : Below U.heap.size U U.drew := (Below.refl _ U).drew
        have GU := Lib.hid (isBuilderBelow HU.out (belowThen HXA.out hdr))
        have GX := Lib.hid (HXB.out.below' hdr)
        have hbd : Below w1.heap.size w1 U.drew := belowThen hb (belowThen HXA.out hdr)
        have f0 : U.cell? ⟨wr.heap.size, 0, none⟩ = some (.string s) := HXB.out.cell 0
        have f1 : U.cell? ⟨wr.heap.size, 1, none⟩ = some (.int .i64 x) := HXB.out.cell 1
        clear hUE hdr hkl hval hI64
        go_wp2_with fail
        rw [HUE.out]
        clear h1 h2
        go_region_held3 (fun w' => Below w1.heap.size w1 w' ∧ w'.cell? ⟨wr.heap.size, 0, none⟩ = some (.string s) ∧ w'.cell? ⟨wr.heap.size, 1, none⟩ = some (.int .i64 x))
          (first
            | with_reducible assumption
            | exact ⟨hbd, GX.out.cell 0, GX.out.cell 1⟩
            | exact ⟨belowThen (‹Below w1.heap.size w1 _ ∧ _›).1 bk, GX.out.cell 0, GX.out.cell 1⟩
            | exact ⟨(belowThen hbd bk).trans bkL, GX.out.cell 0, GX.out.cell 1⟩
            | exact ⟨belowThen (‹Below w1.heap.size w1 _ ∧ _›).1 (belowAlloc _ _), (GX.out.below' (belowAlloc _ _)).cell 0, (GX.out.below' (belowAlloc _ _)).cell 1⟩)
          (first
            | (go_at_call 55; refine (HVF.out _ (‹Below w1.heap.size w1 _ ∧ _›).1).mono ?_; rintro e wF ⟨rfl, bk⟩; have GU := Lib.hid (isBuilderBelow GU.out bk); have GX := Lib.hid (GX.out.below' bk))
            | (go_at_call 52; refine (HLN.out wF GU.out (belowThen hbd bk)).mono ?_; rintro e wL ⟨rfl, hL1, bkL, hL3⟩; have GU := Lib.hid hL1; have GX := Lib.hid (Stay.blk hL3 GX.out (by decide) (Ne.symm hne)); clear hL1 hL3))
        have hfin := (‹Below w1.heap.size w1 wL ∧ _›).1
        clear f0 f1 hbd bk bkL k0 k1' k2' k3' k4
        go_wp2
        go_roundw
        case rel => exact ⟨k + 1, by omega, by go_num, GU.out, hfin⟩
        case measure => simp [intOf]; omega
      · obtain rfl : n1 = k := by omega
        clear k0 k1' k2' k3' k4
        obtain ⟨k0, k1', k2', k3', k4⟩ := HK.out wr (HQ.out wr hb)
        go_wp2
        go_loopw [52] (fun i wr => ∃ k : Nat, k ≤ n2 ∧ i = .int .i64 k ∧ IsB w1.heap.size w1.heap.size (p.tA n1 k 0 0 0) wr ∧ Below w1.heap.size w1 wr) (fun i _ => n2 - (intOf i).toNat)
        case atStart => exact ⟨0, Nat.zero_le _, rfl, HU.out, hb⟩
        case round =>
          clear k0 k1' k2' k3' k4
          obtain ⟨k, hk, rfl, hu, hb⟩ := hrel
          have HU := Lib.hid hu
          clear hu
          obtain ⟨k0, k1', k2', k3', k4⟩ := HK.out wr (HQ.out wr hb)
          by_cases hlt : k < n2
          · have hkl : k < p.muts.length := by rw [HN2.out]; exact hlt
            have HKL := Lib.hid hkl
            obtain ⟨q, off, hA, _, h1⟩ := (HP.out wr (HQ.out wr hb)).muts.one hkl
            have hA : A2 = _ := hA
            subst hA
            unfold ES at h1
            rw [Nat.mul_one] at h1
            have hk0 : (0 : Int) ≤ k := by omega
            have hkn : (k : Int) < n2 := by omega
            have HLN := Lib.hid (fun X (hU : IsB w1.heap.size w1.heap.size (p.tA n1 k 0 0 0) X) (hX : Below w1.heap.size w1 X) => dLit2 w1.heap.size w1.heap.size (p.tA n1 k 0 0 0) _ _ _ X (lMutIs p.muts[k]) (Nat.le_trans (lMutLen HVLD.out _ (List.getElem_mem hkl)) (by decide)) hU (Nat.le_trans (tALen HVLD.out HPF.out _ _ _ _ _) (by decide)) hX.size |>.mono (GivesX.of (tAm hkl) X))
            generalize p.muts[k] = s at h1 HLN
            clear hkl
            go_wp2_with fail
            refine (HLN.out wr HU.out hb).mono ?_
            rintro e wL ⟨rfl, hL1, bkL, _⟩
            have GU := Lib.hid hL1
            have hfin := hb.trans bkL
            clear hL1 bkL k0 k1' k2' k3' k4
            go_wp2
            go_roundw
            case rel => exact ⟨k + 1, by omega, by go_num, GU.out, hfin⟩
            case measure => simp [intOf]; omega
          · obtain rfl : n2 = k := by omega
            clear k0 k1' k2' k3' k4
            obtain ⟨k0, k1', k2', k3', k4⟩ := HK.out wr (HQ.out wr hb)
            go_wp2
            go_loopw [64] (fun i wr => ∃ k : Nat, k ≤ n3 ∧ i = .int .i64 k ∧ IsB w1.heap.size w1.heap.size (p.tA n1 n2 k 0 0) wr ∧ Below w1.heap.size w1 wr) (fun i _ => n3 - (intOf i).toNat)
            case atStart => exact ⟨0, Nat.zero_le _, rfl, HU.out, hb⟩
            case round =>
              clear k0 k1' k2' k3' k4
              obtain ⟨k, hk, rfl, hu, hb⟩ := hrel
              have HU := Lib.hid hu
              clear hu
              obtain ⟨k0, k1', k2', k3', k4⟩ := HK.out wr (HQ.out wr hb)
              by_cases hlt : k < n3
              · have hkl : k < p.conds.length := by rw [HN3.out]; exact hlt
                have HKL := Lib.hid hkl
                obtain ⟨q, off, hA, _, h1⟩ := (HP.out wr (HQ.out wr hb)).conds.one hkl
                have hA : A3 = _ := hA
                subst hA
                unfold ES at h1
                rw [Nat.mul_one] at h1
                have hk0 : (0 : Int) ≤ k := by omega
                have hkn : (k : Int) < n3 := by omega
                have HLN := Lib.hid (fun X (hU : IsB w1.heap.size w1.heap.size (p.tA n1 n2 k 0 0) X) (hX : Below w1.heap.size w1 X) => dLit2 w1.heap.size w1.heap.size (p.tA n1 n2 k 0 0) _ _ _ X (lConIs p.conds[k]) (Nat.le_trans (lConLen HVLD.out _ (List.getElem_mem hkl)) (by decide)) hU (Nat.le_trans (tALen HVLD.out HPF.out _ _ _ _ _) (by decide)) hX.size |>.mono (GivesX.of (tAc hkl) X))
                generalize p.conds[k] = s at h1 HLN
                clear hkl
                go_wp2_with fail
                refine (HLN.out wr HU.out hb).mono ?_
                rintro e wL ⟨rfl, hL1, bkL, _⟩
                have GU := Lib.hid hL1
                have hfin := hb.trans bkL
                clear hL1 bkL k0 k1' k2' k3' k4
                go_wp2
                go_roundw
                case rel => exact ⟨k + 1, by omega, by go_num, GU.out, hfin⟩
                case measure => simp [intOf]; omega
              · obtain rfl : n3 = k := by omega
                clear k0 k1' k2' k3' k4
                obtain ⟨k0, k1', k2', k3', k4⟩ := HK.out wr (HQ.out wr hb)
                go_wp2
                go_loopw [76] (fun i wr => ∃ k : Nat, k ≤ n4 ∧ i = .int .i64 k ∧ IsB w1.heap.size w1.heap.size (p.tA n1 n2 n3 k 0) wr ∧ Below w1.heap.size w1 wr) (fun i _ => n4 - (intOf i).toNat)
                case atStart => exact ⟨0, Nat.zero_le _, rfl, HU.out, hb⟩
                case round =>
                  clear k0 k1' k2' k3' k4
                  obtain ⟨k, hk, rfl, hu, hb⟩ := hrel
                  have HU := Lib.hid hu
                  clear hu
                  obtain ⟨k0, k1', k2', k3', k4⟩ := HK.out wr (HQ.out wr hb)
                  by_cases hlt : k < n4
                  · have hkl : k < p.funcs.length := by rw [HN4.out]; exact hlt
                    obtain ⟨q, off, hA, _, h1, v, h2, Ac, nc, cc, rfl, hnc, hrd⟩ := (HP.out w1 (HQ.out w1 (Below.refl _ _))).funcs.one hkl
                    have hA : A4 = _ := hA
                    subst hA
                    have hk0 : (0 : Int) ≤ k := by omega
                    have hkn : (k : Int) < n4 := by omega
                    have HRD := Lib.hid (fun X (hX : Below w1.heap.size w1 X) => hrd.below stabI hX)
                    replace h1 := (hb.cell (World.block_lt_of_cell? _ _ h1)).trans h1
                    replace h2 := (hb.cell (World.block_lt_of_cell? _ _ h2)).trans h2
                    have hcl := hrd.le
                    have hcm := hrd.max
                    rw [hnc] at hcl
                    unfold maxLen at hcm
                    have HTE := Lib.hid (tIe (a := n1) (b := n2) (c := n3) hkl).symm
                    have HFM := Lib.hid (List.getElem_mem hkl)
                    rw [hnc] at HTE
                    have HNC := Lib.hid hnc
                    have HLN := Lib.hid (fun X (hU : IsB w1.heap.size w1.heap.size (p.tA n1 n2 n3 k 0) X) (hX : Below w1.heap.size w1 X) => dLit2 w1.heap.size w1.heap.size (p.tA n1 n2 n3 k 0) _ _ _ X (lFunIs (p.funcs[k]).1) (by have := nameLen16 (HVLD.out.nf _ HFM.out); simp only [lFun, List.length_append, List.length_cons, List.length_nil]; omega) hU (Nat.le_trans (tALen HVLD.out HPF.out _ _ _ _ _) (by decide)) hX.size |>.mono (GivesX.of (tI0 p n1 n2 n3 k p.funcs[k]) X))
                    clear hnc hrd
                    generalize p.funcs[k] = f at h1 HRD HTE HFM HNC HLN
                    generalize f.1 = s at h1 HLN
                    have hne : w1.heap.size ≠ wr.heap.size := by
                      have := HU.out.elim (fun x => x.lt) (fun x => x.lt)
                      omega
                    have HXB := Lib.hid (Blk.new wr 59 #[.string s, .slice Ac nc cc])
                    have HXA := Lib.hid (belowAlloc wr (.cells #[.string s, .slice Ac nc cc] 59))
                    obtain ⟨U, hUE⟩ : ∃ U, wr.alloc (.cells #[.string s, .slice Ac nc cc] 59) = U := ⟨_, rfl⟩
                    rw [hUE] at HXB HXA
                    have HUE := Lib.hid hUE
                    have GU := Lib.hid (isBuilderBelow HU.out HXA.out)
                    have hbU : Below w1.heap.size w1 U := belowThen hb HXA.out
                    have f0 : U.cell? ⟨wr.heap.size, 0, none⟩ = some (.string s) := HXB.out.cell 0
                    have f1 : U.cell? ⟨wr.heap.size, 1, none⟩ = some (.slice Ac nc cc) := HXB.out.cell 1
                    have f00 : (wr.alloc (.cells #[.string s, .slice Ac nc cc] 59)).cell? ⟨wr.heap.size, 0, none⟩ = some (.string s) := by rw [hUE]; exact f0
                    have hzU : wr.heap.size + 1 = U.heap.size := by rw [← hUE]; simp
                    have HZU := Lib.hid hzU
                    have HB7 := Lib.hid hb
                    clear hUE hkl hzU
                    go_wp2_with fail
                    rw [HUE.out]
                    rw [HZU.out]
                    refine (HLN.out U GU.out hbU).mono ?_
                    rintro e wL ⟨rfl, hL1, bkL, hL3⟩
                    have GU := Lib.hid hL1
                    have hfin := hbU.trans bkL
                    have hX2 := Stay.blk hL3 HXB.out (by decide) (Ne.symm hne)
                    have fL : wL.cell? ⟨wr.heap.size, 1, none⟩ = some (.slice Ac nc cc) := hX2.cell 1
                    clear hL1 bkL hL3 f0 f1 f00 h1 h2 k0 k1' k2' k3' k4
                    go_wp2
                    go_loopw [88] (fun i wr => ∃ j : Nat, j ≤ nc ∧ i = .int .i64 j ∧ IsB w1.heap.size w1.heap.size (p.tI n1 n2 n3 k j f) wr ∧ Below w1.heap.size w1 wr) (fun i _ => nc - (intOf i).toNat)
                    case atStart => exact ⟨0, Nat.zero_le _, rfl, GU.out, hfin⟩
                    case round =>
                      obtain ⟨j, hj, rfl, hu2, hb⟩ := hrel
                      have HU2 := Lib.hid hu2
                      clear hu2
                      obtain ⟨k0, k1', k2', k3', k4⟩ := HK.out wr (HQ.out wr hb)
                      by_cases hjt : j < nc
                      · have hjl : j < f.2.length := by rw [HNC.out]; exact hjt
                        obtain ⟨q2, off2, hA2, _, hEI⟩ := (HRD.out wr hb).one hjl
                        have hA2 : Ac = _ := hA2
                        subst hA2
                        have hj0 : (0 : Int) ≤ j := by omega
                        have hjn : (j : Int) < nc := by omega
                        have him : f.2[j] ∈ f.2 := List.getElem_mem hjl
                        have hiW := HPF.out.ins f HFM.out _ him
                        have hchk := (HVLD.out.ins HFM.out him).1
                        have hop := (I8.good hchk).op
                        have hlen : (bs (p.insT f.2[j]).t).size ≤ 131 := by
                          rw [HVLD.out.insT HFM.out him]
                          have := catLen HVLD.out hiW
                          simpa [bs, ByteArray.size, Wd.ok] using this
                        have HMN := Lib.hid (fun X (hT : InsT X) => (iMnem (f.2[j]).op (mnOf (f.2[j]).op) rfl X hT).mono fun e w' ⟨h1, h2⟩ => (⟨h1, h2 ▸ Below.refl _ _⟩ : _ ∧ Below X.heap.size X w'))
                        have HOP := Lib.hid (fun X (hX : PgW X ⟨A1, n1, c1, A2, n2, c2, A3, n3, c3, some ⟨q, off, none⟩, n4, c4, A5, n5, c5⟩ p) (hT : LaidD X) => iOperands f.2[j] hiW hop X hX hT)
                        have HSN := Lib.hid (fun A n c X (hX : WdL X A n c (p.opW f.2[j])) => iSentence (mnOf (f.2[j]).op) (Nat.le_trans (mnOfLen (f.2[j]).op) (by decide)) (p.opW f.2[j]) (fun x hx => Nat.le_trans (opWLen HVLD.out hiW x hx) (by decide)) A n c X hX)
                        have HLI := Lib.hid (fun X (hU : IsB w1.heap.size w1.heap.size (p.tI n1 n2 n3 k j f) X) (hX : Below w1.heap.size w1 X) => dLit1 w1.heap.size w1.heap.size (p.tI n1 n2 n3 k j f) _ _ X (lInsIs p f.2[j]) (Nat.le_trans (lInsLen HVLD.out HPF.out HFM.out _ him) (by decide)) hU (Nat.le_trans (tILen HVLD.out HPF.out _ _ _ _ _ HFM.out) (by decide)) hX.size |>.mono (GivesX.of (tIn hjl) X))
                        rw [sntIns] at HSN
                        generalize p.insT f.2[j] = rt at HSN HLI hlen
                        generalize p.opW f.2[j] = ws at HOP HSN
                        generalize mnOf (f.2[j]).op = mno at HMN HSN
                        have hne : w1.heap.size ≠ wr.heap.size := by
                          have := HU2.out.elim (fun x => x.lt) (fun x => x.lt)
                          omega
                        generalize f.2[j] = i at hEI HMN HOP HSN
                        obtain ⟨op, a', b', c', obj, n, fn, ord⟩ := i
                        obtain ⟨g0, g1, g2, g3, g4, g5, g6, g7⟩ := hEI
                        simp only [PgA.val, PgA.fs, I8.val] at HOP HMN g0 g1 g2 g3 g4 g5 g6 g7
                        obtain ⟨bx, hbx⟩ : ∃ bx, wr.heap.size = bx := ⟨_, rfl⟩
                        have HXB := Lib.hid (Blk.new wr 41 #[.int .i64 op, .int .i64 a', .int .i64 b', .int .i64 c', .int .i64 obj, .int .i64 n, .int .i64 fn, .int .i64 ord])
                        have HXA := Lib.hid (belowAlloc wr (.cells #[.int .i64 op, .int .i64 a', .int .i64 b', .int .i64 c', .int .i64 obj, .int .i64 n, .int .i64 fn, .int .i64 ord] 41))
                        rw [hbx] at HXB hne
                        have HBX := Lib.hid hbx
                        obtain ⟨U, hUE⟩ : ∃ U, wr.alloc (.cells #[.int .i64 op, .int .i64 a', .int .i64 b', .int .i64 c', .int .i64 obj, .int .i64 n, .int .i64 fn, .int .i64 ord] 41) = U := ⟨_, rfl⟩
                        rw [hUE] at HXB HXA
                        have HUE := Lib.hid hUE
                        have hdr : Below U.heap.size U U.drew := (Below.refl _ U).drew
                        have GU := Lib.hid (isBuilderBelow HU2.out (belowThen HXA.out hdr))
                        have GX := Lib.hid (HXB.out.below' hdr)
                        have hbd : Below w1.heap.size w1 U.drew := belowThen hb (belowThen HXA.out hdr)
                        obtain ⟨f0, f1, f2, f3, f4⟩ := HK.out U (HQ.out U (belowThen hb HXA.out))
                        have f5 : U.cell? ⟨bx, 0, none⟩ = some (.int .i64 op) := HXB.out.cell 0
                        have HKS : Hid (∀ X, Below w1.heap.size w1 X → Blk X bx 41 #[.int .i64 op, .int .i64 a', .int .i64 b', .int .i64 c', .int .i64 obj, .int .i64 n, .int .i64 fn, .int .i64 ord] → Below w1.heap.size w1 X ∧ X.cell? ⟨b0, 0, none⟩ = some (.slice A1 n1 c1) ∧ X.cell? ⟨b0, 1, none⟩ = some (.slice A2 n2 c2) ∧ X.cell? ⟨b0, 2, none⟩ = some (.slice A3 n3 c3) ∧ X.cell? ⟨b0, 3, none⟩ = some (.slice (some ⟨q, off, none⟩) n4 c4) ∧ X.cell? ⟨b0, 4, none⟩ = some (.slice A5 n5 c5) ∧ X.cell? ⟨bx, 0, none⟩ = some (.int .i64 op) ∧ X.cell? ⟨bx, 1, none⟩ = some (.int .i64 a') ∧ X.cell? ⟨bx, 2, none⟩ = some (.int .i64 b') ∧ X.cell? ⟨bx, 3, none⟩ = some (.int .i64 c') ∧ X.cell? ⟨bx, 4, none⟩ = some (.int .i64 obj) ∧ X.cell? ⟨bx, 5, none⟩ = some (.int .i64 n) ∧ X.cell? ⟨bx, 6, none⟩ = some (.int .i64 fn) ∧ X.cell? ⟨bx, 7, none⟩ = some (.int .i64 ord)) := by
                          refine Lib.hid fun X hX hB => ?_
                          obtain ⟨g0, g1, g2, g3, g4⟩ := HK.out X (HQ.out X hX)
                          exact ⟨hX, g0, g1, g2, g3, g4, hB.cell 0, hB.cell 1, hB.cell 2, hB.cell 3, hB.cell 4, hB.cell 5, hB.cell 6, hB.cell 7⟩
                        have HB9 := Lib.hid hb
                        clear hUE hdr hjl hbx him hiW hchk hop hb
                        go_wp2_with fail
                        rw [HUE.out]
                        rw [HBX.out]
                        clear g0 g1 g2 g3 g4 g5 g6 g7 k0 k1' k2' k3' k4
                        go_region_held3 (fun w' => Below w1.heap.size w1 w' ∧ w'.cell? ⟨b0, 0, none⟩ = some (.slice A1 n1 c1) ∧ w'.cell? ⟨b0, 1, none⟩ = some (.slice A2 n2 c2) ∧ w'.cell? ⟨b0, 2, none⟩ = some (.slice A3 n3 c3) ∧ w'.cell? ⟨b0, 3, none⟩ = some (.slice (some ⟨q, off, none⟩) n4 c4) ∧ w'.cell? ⟨b0, 4, none⟩ = some (.slice A5 n5 c5) ∧ w'.cell? ⟨bx, 0, none⟩ = some (.int .i64 op) ∧ w'.cell? ⟨bx, 1, none⟩ = some (.int .i64 a') ∧ w'.cell? ⟨bx, 2, none⟩ = some (.int .i64 b') ∧ w'.cell? ⟨bx, 3, none⟩ = some (.int .i64 c') ∧ w'.cell? ⟨bx, 4, none⟩ = some (.int .i64 obj) ∧ w'.cell? ⟨bx, 5, none⟩ = some (.int .i64 n) ∧ w'.cell? ⟨bx, 6, none⟩ = some (.int .i64 fn) ∧ w'.cell? ⟨bx, 7, none⟩ = some (.int .i64 ord))
                          (first
                            | with_reducible assumption
                            | exact HKS.out _ hbd GX.out
                            | exact HKS.out _ (belowThen (‹Below w1.heap.size w1 _ ∧ _›).1 bk) GX.out)
                          (first
                            | (go_at_call 57; refine (HMN.out _ (HL.out _ (HQ.out _ (‹Below w1.heap.size w1 _ ∧ _›).1)).ins).mono ?_; rintro e wM ⟨rfl, bk⟩; have GU := Lib.hid (isBuilderBelow GU.out bk); have GX := Lib.hid (GX.out.below' bk))
                            | (go_at_call 58; refine (HOP.out _ (HP.out _ (HQ.out _ (‹Below w1.heap.size w1 _ ∧ _›).1)) (HL.out _ (HQ.out _ (‹Below w1.heap.size w1 _ ∧ _›).1))).mono ?_; rintro e wO ⟨⟨A9, n9, c9, rfl, h9⟩, bk⟩; have G9 := Lib.hid h9; clear h9; have GU := Lib.hid (isBuilderBelow GU.out bk); have GX := Lib.hid (GX.out.below' bk))
                            | (go_at_call 56; refine (HSN.out A9 n9 c9 _ G9.out).mono ?_; rintro e wS ⟨he, bk⟩; have he : e = .returned (.tuple #[.string (bs rt.t), .int .i64 rt.e]) := he; subst he; have GU := Lib.hid (isBuilderBelow GU.out bk); have GX := Lib.hid (GX.out.below' bk)))
                        have hb := (‹Below w1.heap.size w1 wS ∧ _›).1
                        clear f0 f1 f2 f3 f4 f5 hbd bk
                        generalize bs rt.t = st at hlen HLI ⊢
                        go_wp2_with fail
                        refine (HLI.out wS GU.out hb).mono ?_
                        rintro e wL ⟨rfl, hL1, bkL, _⟩
                        have GU := Lib.hid hL1
                        have hfin := hb.trans bkL
                        clear hL1 bkL
                        go_wp2
                        go_roundw
                        case rel => exact ⟨j + 1, by omega, by go_num, GU.out, hfin⟩
                        case measure => simp [intOf]; omega
                      · obtain rfl : nc = j := by omega
                        have HLE := Lib.hid (fun X (hU : IsB w1.heap.size w1.heap.size (p.tI n1 n2 n3 k nc f) X) (hX : Below w1.heap.size w1 X) => dLit1 w1.heap.size w1.heap.size (p.tI n1 n2 n3 k nc f) _ _ X lEndIs (by decide) hU (Nat.le_trans (tILen HVLD.out HPF.out _ _ _ _ _ HFM.out) (by decide)) hX.size |>.mono (GivesX.of HTE.out X))
                        go_wp2_with fail
                        refine (HLE.out wr HU2.out hb).mono ?_
                        rintro e wL ⟨rfl, hL1, bkL, _⟩
                        have GU := Lib.hid hL1
                        have hfin := hb.trans bkL
                        clear hL1 bkL k0 k1' k2' k3' k4
                        go_wp2
                        go_roundw
                        case rel => exact ⟨k + 1, by omega, by go_num, GU.out, hfin⟩
                        case measure => simp [intOf]; omega
                  · obtain rfl : n4 = k := by omega
                    clear k0 k1' k2' k3' k4
                    obtain ⟨k0, k1', k2', k3', k4⟩ := HK.out wr (HQ.out wr hb)
                    go_wp2
                    go_loopw [115] (fun i wr => ∃ k : Nat, k ≤ n5 ∧ i = .int .i64 k ∧ IsB w1.heap.size w1.heap.size (p.tA n1 n2 n3 n4 k) wr ∧ Below w1.heap.size w1 wr) (fun i _ => n5 - (intOf i).toNat)
                    case atStart => exact ⟨0, Nat.zero_le _, rfl, HU.out, hb⟩
                    case round =>
                      clear k0 k1' k2' k3' k4
                      obtain ⟨k, hk, rfl, hu, hb⟩ := hrel
                      have HU := Lib.hid hu
                      clear hu
                      obtain ⟨k0, k1', k2', k3', k4⟩ := HK.out wr (HQ.out wr hb)
                      by_cases hlt : k < n5
                      · have hkl : k < p.thr.length := by rw [HN5.out]; exact hlt
                        obtain ⟨q, off, hA, _, h1, h2⟩ := (HP.out wr (HQ.out wr hb)).thr.one hkl
                        have hA : A5 = _ := hA
                        subst hA
                        have hk0 : (0 : Int) ≤ k := by omega
                        have hkn : (k : Int) < n5 := by omega
                        have htm := List.getElem_mem hkl
                        have hte := HVLD.out.te _ htm
                        have hval := hte.2
                        have hI64 : In64 (p.thr[k]).2 := by
                          simp only [isVal, Bool.and_eq_true, decide_eq_true_eq] at hval
                          exact ⟨by omega, by omega⟩
                        obtain ⟨m, hm, hm4⟩ : ∃ m : Nat, (p.thr[k]).1 = (m : Int) ∧ m < n4 := by
                          have hbe := hte.1
                          rw [HN4.out] at hbe
                          simp only [belB, Bool.and_eq_true, decide_eq_true_eq] at hbe
                          exact ⟨(p.thr[k]).1.toNat, by omega, by have h2 : (p.thr[k]).1 < (n4 : Int) := hbe.2; omega⟩
                        have hml : m < p.funcs.length := by rw [HN4.out]; exact hm4
                        obtain ⟨q4, off4, hA4, hq4, h5, -⟩ := (HP.out w1 (HQ.out w1 (Below.refl _ _))).funcs.one hml
                        have hA4 : A4 = _ := hA4
                        subst hA4
                        have hnm : p.fN.getD (p.thr[k]).1.toNat ⟨#[]⟩ = (p.funcs[m]).1 := by rw [hm, Int.toNat_natCast]; exact fNat hml
                        have HNM := Lib.hid (fun X (hX : Below w1.heap.size w1 X) => (hX.cell (World.block_lt_of_cell? _ _ h5)).trans h5)
                        have HVF := Lib.hid (fun X (hX : Below w1.heap.size w1 X) => vForm (p.thr[k]).2 _ rfl hI64.1 hI64.2 X (HL.out X (HQ.out X hX)).tb)
                        have HLN := Lib.hid (fun X (hU : IsB w1.heap.size w1.heap.size (p.tA n1 n2 n3 n4 k) X) (hX : Below w1.heap.size w1 X) => dLit3 w1.heap.size w1.heap.size (p.tA n1 n2 n3 n4 k) _ _ _ _ X (lThrIs p p.thr[k]) (Nat.le_trans (lThrLen HVLD.out _ htm) (by decide)) hU (Nat.le_trans (tALen HVLD.out HPF.out _ _ _ _ _) (by decide)) hX.size |>.mono (GivesX.of (tAt hkl) X))
                        rw [hnm] at HLN
                        rw [hm] at h1
                        generalize (⟨(Lib.itoa (p.thr[k]).2).toArray⟩ : ByteArray) = it at *
                        generalize (p.funcs[m]).1 = nm at HNM HLN
                        clear h5 hnm hm
                        generalize (p.thr[k]).2 = x at h2 HVF
                        have hm0 : (0 : Int) ≤ m := by omega
                        have hmn : (m : Int) < n4 := by omega
                        have hmt : ((m : Nat) : Int).toNat = m := Int.toNat_natCast m
                        have hne : w1.heap.size ≠ wr.heap.size := by
                          have := HU.out.elim (fun x => x.lt) (fun x => x.lt)
                          omega
                        obtain ⟨bx, hbx⟩ : ∃ bx, wr.heap.size = bx := ⟨_, rfl⟩
                        have HXB := Lib.hid (Blk.new wr 61 #[.int .i64 (m : Int), .int .i64 x])
                        have HXA := Lib.hid (belowAlloc wr (.cells #[.int .i64 (m : Int), .int .i64 x] 61))
                        rw [hbx] at HXB hne
                        have HBX := Lib.hid hbx
                        obtain ⟨U, hUE⟩ : ∃ U, wr.alloc (.cells #[.int .i64 (m : Int), .int .i64 x] 61) = U := ⟨_, rfl⟩
                        rw [hUE] at HXB HXA
                        have HUE := Lib.hid hUE
                        have hdr : Below U.heap.size U U.drew := (Below.refl _ U).drew
                        have GU := Lib.hid (isBuilderBelow HU.out (belowThen HXA.out hdr))
                        have GX := Lib.hid (HXB.out.below' hdr)
                        have hbd : Below w1.heap.size w1 U.drew := belowThen hb (belowThen HXA.out hdr)
                        obtain ⟨f0, f1, f2, f3, f4⟩ := HK.out U (HQ.out U (belowThen hb HXA.out))
                        have HKS : Hid (∀ X, Below w1.heap.size w1 X → Blk X bx 61 #[.int .i64 (m : Int), .int .i64 x] → Below w1.heap.size w1 X ∧ X.cell? ⟨b0, 0, none⟩ = some (.slice A1 n1 c1) ∧ X.cell? ⟨b0, 1, none⟩ = some (.slice A2 n2 c2) ∧ X.cell? ⟨b0, 2, none⟩ = some (.slice A3 n3 c3) ∧ X.cell? ⟨b0, 3, none⟩ = some (.slice (some ⟨q4, off4, none⟩) n4 c4) ∧ X.cell? ⟨b0, 4, none⟩ = some (.slice (some ⟨q, off, none⟩) n5 c5) ∧ X.cell? ⟨bx, 0, none⟩ = some (.int .i64 (m : Int)) ∧ X.cell? ⟨bx, 1, none⟩ = some (.int .i64 x) ∧ X.cell? ⟨q4, off4 + m * 2, none⟩ = some (.string nm)) := by
                          refine Lib.hid fun X hX hB => ?_
                          obtain ⟨g0, g1, g2, g3, g4⟩ := HK.out X (HQ.out X hX)
                          exact ⟨hX, g0, g1, g2, g3, g4, hB.cell 0, hB.cell 1, HNM.out X hX⟩
                        clear hUE hdr hkl hval hI64 hbx htm hte hml
                        go_wp2_with fail
                        rw [HUE.out]
                        rw [HBX.out]
                        clear h1 h2 k0 k1' k2' k3' k4
                        go_region_held3 (fun w' => Below w1.heap.size w1 w' ∧ w'.cell? ⟨b0, 0, none⟩ = some (.slice A1 n1 c1) ∧ w'.cell? ⟨b0, 1, none⟩ = some (.slice A2 n2 c2) ∧ w'.cell? ⟨b0, 2, none⟩ = some (.slice A3 n3 c3) ∧ w'.cell? ⟨b0, 3, none⟩ = some (.slice (some ⟨q4, off4, none⟩) n4 c4) ∧ w'.cell? ⟨b0, 4, none⟩ = some (.slice (some ⟨q, off, none⟩) n5 c5) ∧ w'.cell? ⟨bx, 0, none⟩ = some (.int .i64 (m : Int)) ∧ w'.cell? ⟨bx, 1, none⟩ = some (.int .i64 x) ∧ w'.cell? ⟨q4, off4 + m * 2, none⟩ = some (.string nm))
                          (first
                            | with_reducible assumption
                            | exact HKS.out _ hbd GX.out
                            | exact HKS.out _ (belowThen hbd bk) GX.out
                            | exact HKS.out _ ((belowThen hbd bk).trans bkL) GX.out
                            | exact HKS.out _ (belowThen (‹Below w1.heap.size w1 _ ∧ _›).1 (belowAlloc _ _)) (GX.out.below' (belowAlloc _ _)))
                          (first
                            | (go_at_call 55; refine (HVF.out _ (‹Below w1.heap.size w1 _ ∧ _›).1).mono ?_; rintro e wF ⟨rfl, bk⟩; have GU := Lib.hid (isBuilderBelow GU.out bk); have GX := Lib.hid (GX.out.below' bk))
                            | (go_at_call 52; refine (HLN.out wF GU.out (belowThen hbd bk)).mono ?_; rintro e wL ⟨rfl, hL1, bkL, hL3⟩; have GU := Lib.hid hL1; have GX := Lib.hid (Stay.blk hL3 GX.out (by decide) (Ne.symm hne)); clear hL1 hL3))
                        have hfin := (‹Below w1.heap.size w1 wL ∧ _›).1
                        clear f0 f1 f2 f3 f4 hbd bk bkL
                        go_wp2
                        go_roundw
                        case rel => exact ⟨k + 1, by omega, by go_num, GU.out, hfin⟩
                        case measure => simp [intOf]; omega
                      · obtain rfl : n5 = k := by omega
                        have HTX : Hid (p.tA n1 n2 n3 n4 n5 = p.txt) := Lib.hid (by rw [← HN1.out, ← HN2.out, ← HN3.out, ← HN4.out, ← HN5.out]; exact tAll p)
                        have hlen := tALen HVLD.out HPF.out n1 n2 n3 n4 n5
                        have HU' := HU.out
                        rw [HTX.out] at HU' hlen
                        have HU3 := Lib.hid HU'
                        have HST := Lib.hid (bString w1.heap.size w1.heap.size p.txt wr HU3.out hb.size)
                        have HLE := Lib.hid (bLen w1.heap.size w1.heap.size p.txt wr HU3.out)
                        have HB8 := Lib.hid hb
                        clear HU' k0 k1' k2' k3' k4 hb
                        generalize p.txt = t at HR2 HR3 HST HLE hlen
                        by_cases hlim : 16384 < t.length
                        · have HZ := Lib.hid (HR2.out (by first | trivial | rfl) hlim)
                          generalize t.length = tl at HLE hlim hlen
                          go_wp2_with fail
                          refine HLE.out.mono ?_
                          rintro e w' ⟨rfl, rfl⟩
                          go_wp2
                          go_ret2
                          exact ⟨by rw [HZ.out]; rfl, belowThen HBW.out (HQ.out _ HB8.out)⟩
                        · have HZ := Lib.hid (HR3.out (by first | trivial | rfl) hlim)
                          generalize t.length = tl at HLE hlim hlen
                          go_wp2_with fail
                          refine HLE.out.mono ?_
                          rintro e w' ⟨rfl, rfl⟩
                          go_wp2_with fail
                          refine HST.out.mono ?_
                          rintro e w9 ⟨rfl, b9⟩
                          have HB9 := Lib.hid (HB8.out.trans b9)
                          clear b9
                          go_wp2
                          go_ret2
                          exact ⟨by rw [HZ.out]; rfl, belowThen HBW.out (HQ.out _ HB9.out)⟩
  · have hk1' : (k1 != 0) = true := by simpa using hk1
    have HZ := Lib.hid (HR1.out hk1)
    clear hk1
    go_wp2_with fail
    refine (HCK.out _ (HP.out _ (Below.refl _ _)) (HL.out _ (Below.refl _ _)).ins (HL.out _ (Below.refl _ _)).nm).mono ?_
    rintro e w1 ⟨rfl, b1'⟩
    go_wp2
    go_ret2
    exact ⟨by rw [HZ.out]; rfl, belowThen HBW.out b1'⟩
end Go.Proofs.YtnckpjcfgeajbaaGreatDoor
