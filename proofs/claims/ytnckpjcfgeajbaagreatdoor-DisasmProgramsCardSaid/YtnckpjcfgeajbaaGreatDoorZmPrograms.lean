/-
  The law DisasmPrograms holds: for every program it returns true and leaves its argument as it was, where the listed variables are laid as the program's text lays them.
-/
import Derived.Test.YtnckpjcfgeajbaaGreatDoorZmR
import Derived.Test.YtnckpjcfgeajbaaGreatDoorZmD
import Derived.Deep.RegionHeld3
import Derived.Test.YtnckpjcfgeajbaaGreatDoorZmG
import Derived.Test.YtnckpjcfgeajbaaGreatDoorCards
import Derived.SevenTiedAt
import Derived.ShutString
import Derived.ChangeMaps5
import Derived.Carry
namespace Go.Proofs.YtnckpjcfgeajbaaGreatDoor
open Go Go.RowKit

theorem lVarBs (t : List UInt8) (v : ByteArray × Int) : bs (t ++ lVar v) = bs t ++ ⟨#[118, 97, 114, 32]⟩ ++ v.1 ++ ⟨#[32]⟩ ++ ⟨(Lib.itoa v.2).toArray⟩ ++ ⟨#[10]⟩ := by
  have e : t ++ lVar v = t ++ [118, 97, 114, 32] ++ v.1.data.toList ++ [32] ++ Lib.itoa v.2 ++ [10] := by simp [lVar]
  rw [e, bsApp, bsApp, bsApp, bsApp, bsApp, show ∀ s : ByteArray, bs s.data.toList = s from fun _ => rfl]; rfl
theorem lMutBs (t : List UInt8) (m : ByteArray) : bs (t ++ lMut m) = bs t ++ ⟨#[109, 117, 116, 101, 120, 32]⟩ ++ m ++ ⟨#[10]⟩ := by
  have e : t ++ lMut m = t ++ [109, 117, 116, 101, 120, 32] ++ m.data.toList ++ [10] := by simp [lMut]
  rw [e, bsApp, bsApp, bsApp, show ∀ s : ByteArray, bs s.data.toList = s from fun _ => rfl]; rfl
theorem lConBs (t : List UInt8) (m : ByteArray) : bs (t ++ lCon m) = bs t ++ ⟨#[99, 111, 110, 100, 32]⟩ ++ m ++ ⟨#[10]⟩ := by
  have e : t ++ lCon m = t ++ [99, 111, 110, 100, 32] ++ m.data.toList ++ [10] := by simp [lCon]
  rw [e, bsApp, bsApp, bsApp, show ∀ s : ByteArray, bs s.data.toList = s from fun _ => rfl]; rfl
theorem lFunBs (t : List UInt8) (m : ByteArray) : bs (t ++ lFun m) = bs t ++ ⟨#[102, 117, 110, 99, 32]⟩ ++ m ++ ⟨#[10]⟩ := by
  have e : t ++ lFun m = t ++ [102, 117, 110, 99, 32] ++ m.data.toList ++ [10] := by simp [lFun]
  rw [e, bsApp, bsApp, bsApp, show ∀ s : ByteArray, bs s.data.toList = s from fun _ => rfl]; rfl
theorem lInsBs (p : Prg) (t : List UInt8) (i : I8) : bs (t ++ lIns p i) = bs t ++ ⟨#[32, 32]⟩ ++ bs (p.insT i).t ++ ⟨#[10]⟩ := by
  have e : t ++ lIns p i = t ++ [32, 32] ++ (p.insT i).t ++ [10] := by simp [lIns]
  rw [e, bsApp, bsApp, bsApp]; rfl
theorem lEndBs (t : List UInt8) : bs (t ++ lEnd) = bs t ++ ⟨#[101, 110, 100, 10]⟩ := by rw [bsApp]; rfl
theorem lThrBs (p : Prg) (t : List UInt8) (v : Int × Int) : bs (t ++ lThr p v) = bs t ++ ⟨#[116, 104, 114, 101, 97, 100, 32]⟩ ++ p.fN.getD v.1.toNat ⟨#[]⟩ ++ ⟨#[32]⟩ ++ ⟨(Lib.itoa v.2).toArray⟩ ++ ⟨#[10]⟩ := by
  have e : t ++ lThr p v = t ++ [116, 104, 114, 101, 97, 100, 32] ++ (p.fN.getD v.1.toNat ⟨#[]⟩).data.toList ++ [32] ++ Lib.itoa v.2 ++ [10] := by simp [lThr]
  rw [e, bsApp, bsApp, bsApp, bsApp, bsApp, show ∀ s : ByteArray, bs s.data.toList = s from fun _ => rfl]; rfl
theorem bsSz (t : List UInt8) : (bs t).size = t.length := by simp [bs, ByteArray.size]
theorem nameSz16 {s : ByteArray} (h : nameB s = true) : s.size ≤ 16 := nameLen16 h
theorem itSz {n : Int} (h : In64 n) : (⟨(Lib.itoa n).toArray⟩ : ByteArray).size ≤ 21 := by
  have := itLen64 h
  simpa [ByteArray.size] using this
theorem rtIns {p : Prg} (hv : p.Vld) {f : ByteArray × List I8} (hf : f ∈ p.funcs) {i : I8} (hi : i ∈ f.2) : p.rtW i = p.insT i := by
  rw [hv.insT hf hi, Prg.rtW, if_pos (hv.ins hf hi).2.1]
set_option maxRecDepth 100000 in
set_option maxHeartbeats 16000000 in
theorem rProg {a : PgA} {p : Prg} (w : World) (hP : PgW w a p) (hW : p.Wf) (hsm : p.small = true) : Calls Tryz.prog 23 #[a.val] w fun e w' => e = gvW p.disR ∧ Below w.heap.size w w' := by
  obtain ⟨W, hWE⟩ : ∃ W, w.alloc (.cells a.fs 28) = W := ⟨_, rfl⟩
  have hbW : Below w.heap.size w W := by rw [← hWE]; exact belowAlloc w _
  have hB : PBox W w.heap.size a := by rw [← hWE]; exact Blk.new w _ _
  have HCK := Lib.hid (fun X (hX : PgW X a p) => rCheckP X hX hW hsm)
  obtain ⟨r, hr⟩ : ∃ r, p.disR = r := ⟨_, rfl⟩
  rw [hr]
  have HR1 : Hid (p.chk.1 ≠ 0 → r = .no p.chk.1) := Lib.hid fun h => by rw [← hr, Prg.disR, if_pos h]
  have HR2 : Hid (p.chk.1 = 0 → 16384 < (bs p.txt).size → gvW r = .returned (.tuple #[.string ⟨#[]⟩, .int .i64 4])) := Lib.hid fun h h2 => by rw [← hr, Prg.disR, if_neg (by simpa using h), if_pos (by rwa [bsSz] at h2)]; rfl
  have HR3 : Hid (p.chk.1 = 0 → ¬ 16384 < (bs p.txt).size → gvW r = .returned (.tuple #[.string (bs p.txt), .int .i64 0])) := Lib.hid fun h h2 => by rw [← hr, Prg.disR, if_neg (by simpa using h), if_neg (by rwa [bsSz] at h2)]; rfl
  obtain ⟨k1, k2, k3, hchk⟩ : ∃ k1 k2 k3, p.chk = (k1, k2, k3) := ⟨_, _, _, rfl⟩
  have HVL : Hid (k1 = 0 → p.Vld) := Lib.hid fun h => p.vld (by rw [hchk]; exact h)
  rw [hchk] at HR1 HR2 HR3
  simp only at HR1 HR2 HR3
  simp only [hchk, err3] at HCK
  have HPF := Lib.hid hW
  have HP := Lib.hid (fun X (hX : Below W.heap.size W X) => (hP.below hbW).below hX)
  have HKB := Lib.hid hB
  have HN1 := Lib.hid hP.l1
  have HN2 := Lib.hid hP.l2
  have HN3 := Lib.hid hP.l3
  have HN4 := Lib.hid hP.l4
  have HN5 := Lib.hid hP.l5
  have m1 := hP.vars.max
  have m2 := hP.muts.max
  have m3 := hP.conds.max
  have m4 := hP.funcs.max
  have m5 := hP.thr.max
  have e1 := hP.vars.le
  have e2 := hP.muts.le
  have e3 := hP.conds.le
  have e4 := hP.funcs.le
  have e5 := hP.thr.le
  rw [hP.l1] at e1
  rw [hP.l2] at e2
  rw [hP.l3] at e3
  rw [hP.l4] at e4
  rw [hP.l5] at e5
  unfold maxLen at m1 m2 m3 m4 m5
  obtain ⟨b0, hb0⟩ : ∃ b0, w.heap.size = b0 := ⟨_, rfl⟩
  have HBW := Lib.hid hbW
  have HB0 := Lib.hid hb0
  have HWE := Lib.hid hWE
  obtain ⟨A1, n1, c1, A2, n2, c2, A3, n3, c3, A4, n4, c4, A5, n5, c5⟩ := a
  simp only [PgA.val, PgA.fs] at *
  have HK : Hid (∀ X, Below W.heap.size W X → X.cell? ⟨b0, 0, none⟩ = some (.slice A1 n1 c1) ∧ X.cell? ⟨b0, 1, none⟩ = some (.slice A2 n2 c2) ∧ X.cell? ⟨b0, 2, none⟩ = some (.slice A3 n3 c3) ∧ X.cell? ⟨b0, 3, none⟩ = some (.slice A4 n4 c4) ∧ X.cell? ⟨b0, 4, none⟩ = some (.slice A5 n5 c5)) := by
    refine Lib.hid fun X hX => ?_
    obtain ⟨g0, g1, g2, g3, g4⟩ := (HKB.out.below hX).facts
    rw [hb0] at g0 g1 g2 g3 g4
    exact ⟨g0, g1, g2, g3, g4⟩
  clear hP hB hbW hWE hb0 HKB hr hchk hW hsm
  go_enter Tryz.func23, Tryz.ntmps23
  go_wp2_with fail
  rw [HWE.out]
  rw [HB0.out]
  obtain ⟨k0, k1', k2', k3', k4⟩ := HK.out W (Below.refl _ _)
  by_cases hk1 : k1 = 0
  · subst hk1
    have HVLD := Lib.hid (HVL.out (by first | trivial | rfl))
    clear HVL HR1
    go_wp2_with fail
    refine (HCK.out _ (HP.out _ (Below.refl _ _))).mono ?_
    rintro e w1 ⟨rfl, b1'⟩
    have HS1 := Lib.hid b1'
    have HQ := Lib.hid (fun X (hX : Below w1.heap.size w1 X) => belowThen HS1.out hX)
    have HT0 : Hid ((⟨#[]⟩ : ByteArray) = bs (p.tA 0 0 0 0 0)) := Lib.hid rfl
    clear b1' k0 k1' k2' k3' k4 HCK
    obtain ⟨k0, k1', k2', k3', k4⟩ := HK.out _ HS1.out
    go_wp2
    go_loopw [7, 8] (fun vo vi wr => ∃ k : Nat, k ≤ n1 ∧ vi = .int .i64 k ∧ vo = .string (bs (p.tA k 0 0 0 0)) ∧ Below w1.heap.size w1 wr) (fun _ i _ => n1 - (intOf i).toNat)
    case atStart => exact ⟨0, Nat.zero_le _, rfl, by rw [← HT0.out], Below.refl _ _⟩
    case round =>
      clear k0 k1' k2' k3' k4
      obtain ⟨k, hk, rfl, rfl, hb⟩ := hrel
      obtain ⟨k0, k1', k2', k3', k4⟩ := HK.out wr (HQ.out wr hb)
      have hso : (bs (p.tA k 0 0 0 0)).size ≤ 100000 := by rw [bsSz]; exact tALen HVLD.out HPF.out _ _ _ _ _
      by_cases hlt : k < n1
      · have hkl : k < p.vars.length := by rw [HN1.out]; exact hlt
        obtain ⟨q, off, hA, _, h1, h2⟩ := (HP.out w1 HS1.out).vars.one hkl
        have hA : A1 = _ := hA
        subst hA
        have hk0 : (0 : Int) ≤ k := by omega
        have hkn : (k : Int) < n1 := by omega
        have hval := HVLD.out.iv _ (List.getElem_mem hkl)
        have hI64 : In64 (p.vars[k]).2 := by
          simp only [isVal, Bool.and_eq_true, decide_eq_true_eq] at hval
          exact ⟨by omega, by omega⟩
        have HVF := Lib.hid (fun X => rForm (p.vars[k]).2 _ rfl hI64.1 hI64.2 X)
        have HAP := Lib.hid ((congrArg bs (tAv hkl)).trans (lVarBs _ _))
        have hss := nameSz16 (HVLD.out.nv _ (List.getElem_mem hkl))
        have hsi := itSz hI64
        generalize (⟨(Lib.itoa (p.vars[k]).2).toArray⟩ : ByteArray) = it at *
        generalize (p.vars[k]).1 = s at h1 HAP hss
        generalize (p.vars[k]).2 = x at h2 HVF
        generalize bs (p.tA k 0 0 0 0) = so at *
        have y0 : ¬ 9223372036854775807 < so.size + 4 := by omega
        have y1 : ¬ 9223372036854775807 < so.size + 4 + s.size := by omega
        have y2 : ¬ 9223372036854775807 < so.size + 4 + s.size + 1 := by omega
        have y3 : ¬ 9223372036854775807 < so.size + 4 + s.size + 1 + it.size := by omega
        have y4 : ¬ 9223372036854775807 < so.size + 4 + s.size + 1 + it.size + 1 := by omega
        have HKS : Hid (∀ X, Below w1.heap.size w1 X → Below w1.heap.size w1 X ∧ X.cell? ⟨b0, 0, none⟩ = some (.slice (some ⟨q, off, none⟩) n1 c1) ∧ X.cell? ⟨b0, 1, none⟩ = some (.slice A2 n2 c2) ∧ X.cell? ⟨b0, 2, none⟩ = some (.slice A3 n3 c3) ∧ X.cell? ⟨b0, 3, none⟩ = some (.slice A4 n4 c4) ∧ X.cell? ⟨b0, 4, none⟩ = some (.slice A5 n5 c5) ∧ X.cell? ⟨q, off + k * 2, none⟩ = some (.string s) ∧ X.cell? ⟨q, off + k * 2 + 1, none⟩ = some (.int .i64 x)) := by
          refine Lib.hid fun X hX => ?_
          obtain ⟨g0, g1, g2, g3, g4⟩ := HK.out X (HQ.out X hX)
          exact ⟨hX, g0, g1, g2, g3, g4, (hX.cell (World.block_lt_of_cell? _ _ h1)).trans h1, (hX.cell (World.block_lt_of_cell? _ _ h2)).trans h2⟩
        have hbd : Below w1.heap.size w1 wr.drew := hb.drew
        clear hval hI64 h1 h2
        obtain ⟨_, -, -, -, -, -, f0, f1⟩ := HKS.out wr hb
        go_wp2_with fail
        clear k0 k1' k2' k3' k4 f0 f1
        go_region_held3 (fun w' => Below w1.heap.size w1 w' ∧ w'.cell? ⟨b0, 0, none⟩ = some (.slice (some ⟨q, off, none⟩) n1 c1) ∧ w'.cell? ⟨b0, 1, none⟩ = some (.slice A2 n2 c2) ∧ w'.cell? ⟨b0, 2, none⟩ = some (.slice A3 n3 c3) ∧ w'.cell? ⟨b0, 3, none⟩ = some (.slice A4 n4 c4) ∧ w'.cell? ⟨b0, 4, none⟩ = some (.slice A5 n5 c5) ∧ w'.cell? ⟨q, off + k * 2, none⟩ = some (.string s) ∧ w'.cell? ⟨q, off + k * 2 + 1, none⟩ = some (.int .i64 x))
          (first
            | with_reducible assumption
            | exact HKS.out _ hbd)
          (first
            | (go_at_call 61; refine (HVF.out _).mono ?_; rintro e wF ⟨rfl, rfl⟩))
        have hfin := (‹Below w1.heap.size w1 _ ∧ _›).1
        go_wp2
        go_roundw
        case rel => exact ⟨k + 1, by omega, by go_num, by rw [HAP.out], hfin⟩
        case measure => simp [intOf]; omega
      · obtain rfl : n1 = k := by omega
        go_wp2
        go_loopw [7, 9] (fun vo vi wr => ∃ k : Nat, k ≤ n2 ∧ vi = .int .i64 k ∧ vo = .string (bs (p.tA n1 k 0 0 0)) ∧ Below w1.heap.size w1 wr) (fun _ i _ => n2 - (intOf i).toNat)
        case atStart => exact ⟨0, Nat.zero_le _, rfl, rfl, hb⟩
        case round =>
          clear k0 k1' k2' k3' k4
          obtain ⟨k, hk, rfl, rfl, hb⟩ := hrel
          obtain ⟨k0, k1', k2', k3', k4⟩ := HK.out wr (HQ.out wr hb)
          have hso : (bs (p.tA n1 k 0 0 0)).size ≤ 100000 := by rw [bsSz]; exact tALen HVLD.out HPF.out _ _ _ _ _
          by_cases hlt : k < n2
          · have hkl : k < p.muts.length := by rw [HN2.out]; exact hlt
            obtain ⟨q, off, hA, _, h1⟩ := (HP.out wr (HQ.out wr hb)).muts.one hkl
            have hA : A2 = _ := hA
            subst hA
            unfold ES at h1
            rw [Nat.mul_one] at h1
            have hk0 : (0 : Int) ≤ k := by omega
            have hkn : (k : Int) < n2 := by omega
            have HAP := Lib.hid ((congrArg bs (tAm (a := n1) hkl)).trans (lMutBs _ _))
            have hss := nameSz16 (HVLD.out.nm _ (List.getElem_mem hkl))
            generalize p.muts[k] = s at h1 HAP hss
            generalize bs (p.tA n1 k 0 0 0) = so at *
            have y0 : ¬ 9223372036854775807 < so.size + 6 := by omega
            have y1 : ¬ 9223372036854775807 < so.size + 6 + s.size := by omega
            have y2 : ¬ 9223372036854775807 < so.size + 6 + s.size + 1 := by omega
            clear hkl
            go_wp2
            go_roundw
            case rel => exact ⟨k + 1, by omega, by go_num, by rw [HAP.out], hb⟩
            case measure => simp [intOf]; omega
          · obtain rfl : n2 = k := by omega
            go_wp2
            go_loopw [7, 10] (fun vo vi wr => ∃ k : Nat, k ≤ n3 ∧ vi = .int .i64 k ∧ vo = .string (bs (p.tA n1 n2 k 0 0)) ∧ Below w1.heap.size w1 wr) (fun _ i _ => n3 - (intOf i).toNat)
            case atStart => exact ⟨0, Nat.zero_le _, rfl, rfl, hb⟩
            case round =>
              clear k0 k1' k2' k3' k4
              obtain ⟨k, hk, rfl, rfl, hb⟩ := hrel
              obtain ⟨k0, k1', k2', k3', k4⟩ := HK.out wr (HQ.out wr hb)
              have hso : (bs (p.tA n1 n2 k 0 0)).size ≤ 100000 := by rw [bsSz]; exact tALen HVLD.out HPF.out _ _ _ _ _
              by_cases hlt : k < n3
              · have hkl : k < p.conds.length := by rw [HN3.out]; exact hlt
                obtain ⟨q, off, hA, _, h1⟩ := (HP.out wr (HQ.out wr hb)).conds.one hkl
                have hA : A3 = _ := hA
                subst hA
                unfold ES at h1
                rw [Nat.mul_one] at h1
                have hk0 : (0 : Int) ≤ k := by omega
                have hkn : (k : Int) < n3 := by omega
                have HAP := Lib.hid ((congrArg bs (tAc (a := n1) (b := n2) hkl)).trans (lConBs _ _))
                have hss := nameSz16 (HVLD.out.nc _ (List.getElem_mem hkl))
                generalize p.conds[k] = s at h1 HAP hss
                generalize bs (p.tA n1 n2 k 0 0) = so at *
                have y0 : ¬ 9223372036854775807 < so.size + 5 := by omega
                have y1 : ¬ 9223372036854775807 < so.size + 5 + s.size := by omega
                have y2 : ¬ 9223372036854775807 < so.size + 5 + s.size + 1 := by omega
                clear hkl
                go_wp2
                go_roundw
                case rel => exact ⟨k + 1, by omega, by go_num, by rw [HAP.out], hb⟩
                case measure => simp [intOf]; omega
              · obtain rfl : n3 = k := by omega
                go_wp2
                go_loopw [7, 11] (fun vo vi wr => ∃ k : Nat, k ≤ n4 ∧ vi = .int .i64 k ∧ vo = .string (bs (p.tA n1 n2 n3 k 0)) ∧ Below w1.heap.size w1 wr) (fun _ i _ => n4 - (intOf i).toNat)
                case atStart => exact ⟨0, Nat.zero_le _, rfl, rfl, hb⟩
                case round =>
                  clear k0 k1' k2' k3' k4
                  obtain ⟨k, hk, rfl, rfl, hb⟩ := hrel
                  obtain ⟨k0, k1', k2', k3', k4⟩ := HK.out wr (HQ.out wr hb)
                  have hso : (bs (p.tA n1 n2 n3 k 0)).size ≤ 100000 := by rw [bsSz]; exact tALen HVLD.out HPF.out _ _ _ _ _
                  by_cases hlt : k < n4
                  · have hkl : k < p.funcs.length := by rw [HN4.out]; exact hlt
                    obtain ⟨q, off, hA, _, h1, v, h2, Ac, nc, cc, rfl, hnc, hrd⟩ := (HP.out w1 HS1.out).funcs.one hkl
                    have hA : A4 = _ := hA
                    subst hA
                    have hk0 : (0 : Int) ≤ k := by omega
                    have hkn : (k : Int) < n4 := by omega
                    have HRD := Lib.hid hrd
                    have HCD := Lib.hid h2
                    have HH1 := Lib.hid h1
                    have hcl := hrd.le
                    have hcm := hrd.max
                    rw [hnc] at hcl
                    unfold maxLen at hcm
                    have HTE := Lib.hid (tIe (a := n1) (b := n2) (c := n3) hkl)
                    have HFM := Lib.hid (List.getElem_mem hkl)
                    rw [hnc] at HTE
                    have HNC := Lib.hid hnc
                    have hss := nameSz16 (HVLD.out.nf _ HFM.out)
                    have HAF := Lib.hid ((congrArg bs (tI0 p n1 n2 n3 k p.funcs[k])).trans (lFunBs _ _))
                    replace h1 := (hb.cell (World.block_lt_of_cell? _ _ h1)).trans h1
                    clear hnc hrd
                    generalize p.funcs[k] = f at h1 HH1 h2 HCD HRD HTE HFM HNC HAF hss
                    generalize bs (p.tA n1 n2 n3 k 0) = so at *
                    have y0 : ¬ 9223372036854775807 < so.size + 5 := by omega
                    have y1 : ¬ 9223372036854775807 < so.size + 5 + f.1.size := by omega
                    have y2 : ¬ 9223372036854775807 < so.size + 5 + f.1.size + 1 := by omega
                    clear hkl
                    have f9 := (hb.cell (World.block_lt_of_cell? _ _ h2)).trans h2
                    clear h2
                    go_wp2
                    clear h1 f9
                    go_loopw [7, 12] (fun vo vi wr => ∃ j : Nat, j ≤ nc ∧ vi = .int .i64 j ∧ vo = .string (bs (p.tI n1 n2 n3 k j f)) ∧ Below w1.heap.size w1 wr) (fun _ i _ => nc - (intOf i).toNat)
                    case atStart => exact ⟨0, Nat.zero_le _, rfl, by rw [HAF.out], hb⟩
                    case round =>
                      clear k0 k1' k2' k3' k4
                      obtain ⟨j, hj, rfl, rfl, hb⟩ := hrel
                      obtain ⟨k0, k1', k2', k3', k4⟩ := HK.out wr (HQ.out wr hb)
                      have hso : (bs (p.tI n1 n2 n3 k j f)).size ≤ 200000 := by rw [bsSz]; exact tILen HVLD.out HPF.out _ _ _ _ _ HFM.out
                      have f9 := (hb.cell (World.block_lt_of_cell? _ _ HCD.out)).trans HCD.out
                      by_cases hjt : j < nc
                      · have hjl : j < f.2.length := by rw [HNC.out]; exact hjt
                        obtain ⟨q2, off2, hA2, _, hEI⟩ := HRD.out.one hjl
                        have hA2 : Ac = _ := hA2
                        subst hA2
                        have hj0 : (0 : Int) ≤ j := by omega
                        have hjn : (j : Int) < nc := by omega
                        have him : f.2[j] ∈ f.2 := List.getElem_mem hjl
                        have hiW := HPF.out.ins f HFM.out _ him
                        have hchk := (HVLD.out.ins HFM.out him).1
                        have hop := (I8.good hchk).op
                        have hlen : (bs (p.insT f.2[j]).t).size ≤ 131 := by
                          rw [HVLD.out.insT HFM.out him]
                          have := catLen HVLD.out hiW
                          simpa [bs, ByteArray.size, Wd.ok] using this
                        have HTX := Lib.hid (fun X (hX : PgW X ⟨A1, n1, c1, A2, n2, c2, A3, n3, c3, some ⟨q, off, none⟩, n4, c4, A5, n5, c5⟩ p) => rText HVLD.out f.2[j] hiW hop X hX)
                        rw [rtIns HVLD.out HFM.out him] at HTX
                        have HAP := Lib.hid ((congrArg bs (tIn (a := n1) (b := n2) (c := n3) (k := k) (f := f) hjl)).trans (lInsBs p _ _))
                        generalize p.insT f.2[j] = rt at HTX HAP hlen
                        generalize bs (p.tI n1 n2 n3 k j f) = so at *
                        generalize f.2[j] = i at hEI HTX
                        obtain ⟨op, a', b', c', obj, n, fn, ord⟩ := i
                        obtain ⟨g0, g1, g2, g3, g4, g5, g6, g7⟩ := hEI
                        simp only [PgA.val, PgA.fs, I8.val] at HTX g0 g1 g2 g3 g4 g5 g6 g7
                        have HKS : Hid (∀ X, Below w1.heap.size w1 X → Below w1.heap.size w1 X ∧ X.cell? ⟨b0, 0, none⟩ = some (.slice A1 n1 c1) ∧ X.cell? ⟨b0, 1, none⟩ = some (.slice A2 n2 c2) ∧ X.cell? ⟨b0, 2, none⟩ = some (.slice A3 n3 c3) ∧ X.cell? ⟨b0, 3, none⟩ = some (.slice (some ⟨q, off, none⟩) n4 c4) ∧ X.cell? ⟨b0, 4, none⟩ = some (.slice A5 n5 c5) ∧ X.cell? ⟨q, off + k * 2 + 1, none⟩ = some (.slice (some ⟨q2, off2, none⟩) nc cc) ∧ X.cell? ⟨q2, off2 + j * 8, none⟩ = some (.int .i64 op) ∧ X.cell? ⟨q2, off2 + j * 8 + 1, none⟩ = some (.int .i64 a') ∧ X.cell? ⟨q2, off2 + j * 8 + 2, none⟩ = some (.int .i64 b') ∧ X.cell? ⟨q2, off2 + j * 8 + 3, none⟩ = some (.int .i64 c') ∧ X.cell? ⟨q2, off2 + j * 8 + 4, none⟩ = some (.int .i64 obj) ∧ X.cell? ⟨q2, off2 + j * 8 + 5, none⟩ = some (.int .i64 n) ∧ X.cell? ⟨q2, off2 + j * 8 + 6, none⟩ = some (.int .i64 fn) ∧ X.cell? ⟨q2, off2 + j * 8 + 7, none⟩ = some (.int .i64 ord)) := by
                          refine Lib.hid fun X hX => ?_
                          have mv : ∀ (ad : Addr) (v : Value), w1.cell? ad = some v → X.cell? ad = some v := fun ad v h => (hX.cell (World.block_lt_of_cell? _ _ h)).trans h
                          obtain ⟨l0, l1, l2, l3, l4⟩ := HK.out X (HQ.out X hX)
                          exact ⟨hX, l0, l1, l2, l3, l4, mv _ _ HCD.out, mv _ _ g0, mv _ _ g1, mv _ _ g2, mv _ _ g3, mv _ _ g4, mv _ _ g5, mv _ _ g6, mv _ _ g7⟩
                        have hbd : Below w1.heap.size w1 wr.drew := hb.drew
                        clear hjl him hiW hchk hop g0 g1 g2 g3 g4 g5 g6 g7
                        obtain ⟨_, -, -, -, -, -, f0, f1, f2, f3, f4, f5, f6, f7, f8⟩ := HKS.out wr hb
                        go_wp2_with fail
                        clear k0 k1' k2' k3' k4 f0 f1 f2 f3 f4 f5 f6 f7 f8
                        go_region_held3 (fun w' => Below w1.heap.size w1 w' ∧ w'.cell? ⟨b0, 0, none⟩ = some (.slice A1 n1 c1) ∧ w'.cell? ⟨b0, 1, none⟩ = some (.slice A2 n2 c2) ∧ w'.cell? ⟨b0, 2, none⟩ = some (.slice A3 n3 c3) ∧ w'.cell? ⟨b0, 3, none⟩ = some (.slice (some ⟨q, off, none⟩) n4 c4) ∧ w'.cell? ⟨b0, 4, none⟩ = some (.slice A5 n5 c5) ∧ w'.cell? ⟨q, off + k * 2 + 1, none⟩ = some (.slice (some ⟨q2, off2, none⟩) nc cc) ∧ w'.cell? ⟨q2, off2 + j * 8, none⟩ = some (.int .i64 op) ∧ w'.cell? ⟨q2, off2 + j * 8 + 1, none⟩ = some (.int .i64 a') ∧ w'.cell? ⟨q2, off2 + j * 8 + 2, none⟩ = some (.int .i64 b') ∧ w'.cell? ⟨q2, off2 + j * 8 + 3, none⟩ = some (.int .i64 c') ∧ w'.cell? ⟨q2, off2 + j * 8 + 4, none⟩ = some (.int .i64 obj) ∧ w'.cell? ⟨q2, off2 + j * 8 + 5, none⟩ = some (.int .i64 n) ∧ w'.cell? ⟨q2, off2 + j * 8 + 6, none⟩ = some (.int .i64 fn) ∧ w'.cell? ⟨q2, off2 + j * 8 + 7, none⟩ = some (.int .i64 ord))
                          (first
                            | with_reducible assumption
                            | exact HKS.out _ hbd
                            | exact HKS.out _ (belowThen (‹Below w1.heap.size w1 _ ∧ _›).1 bk))
                          (first
                            | (go_at_call 62; refine (HTX.out _ (HP.out _ (HQ.out _ (‹Below w1.heap.size w1 _ ∧ _›).1))).mono ?_; rintro e wO ⟨he, bk⟩; have he : e = .returned (.tuple #[.string (bs rt.t), .bool (decide (rt.e = 0))]) := he; subst he))
                        have hfin := (‹Below w1.heap.size w1 wO ∧ _›).1
                        clear hbd bk
                        generalize bs rt.t = st at hlen HAP ⊢
                        have y0 : ¬ 9223372036854775807 < so.size + 2 := by omega
                        have y1 : ¬ 9223372036854775807 < so.size + 2 + st.size := by omega
                        have y2 : ¬ 9223372036854775807 < so.size + 2 + st.size + 1 := by omega
                        go_wp2
                        go_roundw
                        case rel => exact ⟨j + 1, by omega, by go_num, by rw [HAP.out], hfin⟩
                        case measure => simp [intOf]; omega
                      · obtain rfl : nc = j := by omega
                        have HAP := Lib.hid ((congrArg bs HTE.out).symm.trans (lEndBs _))
                        generalize bs (p.tI n1 n2 n3 k nc f) = so at *
                        have y0 : ¬ 9223372036854775807 < so.size + 4 := by omega
                        go_wp2
                        go_roundw
                        case rel => exact ⟨k + 1, by omega, by go_num, by rw [HAP.out], hb⟩
                        case measure => simp [intOf]; omega
                  · obtain rfl : n4 = k := by omega
                    go_wp2
                    go_loopw [7, 15] (fun vo vi wr => ∃ k : Nat, k ≤ n5 ∧ vi = .int .i64 k ∧ vo = .string (bs (p.tA n1 n2 n3 n4 k)) ∧ Below w1.heap.size w1 wr) (fun _ i _ => n5 - (intOf i).toNat)
                    case atStart => exact ⟨0, Nat.zero_le _, rfl, rfl, hb⟩
                    case round =>
                      clear k0 k1' k2' k3' k4
                      obtain ⟨k, hk, rfl, rfl, hb⟩ := hrel
                      obtain ⟨k0, k1', k2', k3', k4⟩ := HK.out wr (HQ.out wr hb)
                      have hso : (bs (p.tA n1 n2 n3 n4 k)).size ≤ 100000 := by rw [bsSz]; exact tALen HVLD.out HPF.out _ _ _ _ _
                      by_cases hlt : k < n5
                      · have hkl : k < p.thr.length := by rw [HN5.out]; exact hlt
                        obtain ⟨q, off, hA, _, h1, h2⟩ := (HP.out w1 HS1.out).thr.one hkl
                        have hA : A5 = _ := hA
                        subst hA
                        have hk0 : (0 : Int) ≤ k := by omega
                        have hkn : (k : Int) < n5 := by omega
                        have htm := List.getElem_mem hkl
                        have hte := HVLD.out.te _ htm
                        have hval := hte.2
                        have hI64 : In64 (p.thr[k]).2 := by
                          simp only [isVal, Bool.and_eq_true, decide_eq_true_eq] at hval
                          exact ⟨by omega, by omega⟩
                        obtain ⟨m, hm, hm4⟩ : ∃ m : Nat, (p.thr[k]).1 = (m : Int) ∧ m < n4 := by
                          have hbe := hte.1
                          rw [HN4.out] at hbe
                          simp only [belB, Bool.and_eq_true, decide_eq_true_eq] at hbe
                          exact ⟨(p.thr[k]).1.toNat, by omega, by have h2 : (p.thr[k]).1 < (n4 : Int) := hbe.2; omega⟩
                        have hml : m < p.funcs.length := by rw [HN4.out]; exact hm4
                        obtain ⟨q4, off4, hA4, hq4, h5, -⟩ := (HP.out w1 HS1.out).funcs.one hml
                        have hA4 : A4 = _ := hA4
                        subst hA4
                        have hnm : p.fN.getD (p.thr[k]).1.toNat ⟨#[]⟩ = (p.funcs[m]).1 := by rw [hm, Int.toNat_natCast]; exact fNat hml
                        have hss := nameSz16 (HVLD.out.nf _ (List.getElem_mem hml))
                        have hsi := itSz hI64
                        have HVF := Lib.hid (fun X => rForm (p.thr[k]).2 _ rfl hI64.1 hI64.2 X)
                        have HAP := Lib.hid ((congrArg bs (tAt (a := n1) (b := n2) (c := n3) (d := n4) hkl)).trans (lThrBs p _ _))
                        rw [hnm] at HAP
                        rw [hm] at h1
                        generalize (⟨(Lib.itoa (p.thr[k]).2).toArray⟩ : ByteArray) = it at *
                        generalize (p.funcs[m]).1 = nm at h5 HAP hss
                        clear hnm hm
                        generalize (p.thr[k]).2 = x at h2 HVF
                        generalize bs (p.tA n1 n2 n3 n4 k) = so at *
                        have hm0 : (0 : Int) ≤ m := by omega
                        have hmn : (m : Int) < n4 := by omega
                        have hmt : ((m : Nat) : Int).toNat = m := Int.toNat_natCast m
                        have y0 : ¬ 9223372036854775807 < so.size + 7 := by omega
                        have y1 : ¬ 9223372036854775807 < so.size + 7 + nm.size := by omega
                        have y2 : ¬ 9223372036854775807 < so.size + 7 + nm.size + 1 := by omega
                        have y3 : ¬ 9223372036854775807 < so.size + 7 + nm.size + 1 + it.size := by omega
                        have y4 : ¬ 9223372036854775807 < so.size + 7 + nm.size + 1 + it.size + 1 := by omega
                        have HKS : Hid (∀ X, Below w1.heap.size w1 X → Below w1.heap.size w1 X ∧ X.cell? ⟨b0, 0, none⟩ = some (.slice A1 n1 c1) ∧ X.cell? ⟨b0, 1, none⟩ = some (.slice A2 n2 c2) ∧ X.cell? ⟨b0, 2, none⟩ = some (.slice A3 n3 c3) ∧ X.cell? ⟨b0, 3, none⟩ = some (.slice (some ⟨q4, off4, none⟩) n4 c4) ∧ X.cell? ⟨b0, 4, none⟩ = some (.slice (some ⟨q, off, none⟩) n5 c5) ∧ X.cell? ⟨q, off + k * 2, none⟩ = some (.int .i64 (m : Int)) ∧ X.cell? ⟨q, off + k * 2 + 1, none⟩ = some (.int .i64 x) ∧ X.cell? ⟨q4, off4 + m * 2, none⟩ = some (.string nm)) := by
                          refine Lib.hid fun X hX => ?_
                          have mv : ∀ (ad : Addr) (v : Value), w1.cell? ad = some v → X.cell? ad = some v := fun ad v h => (hX.cell (World.block_lt_of_cell? _ _ h)).trans h
                          obtain ⟨g0, g1, g2, g3, g4⟩ := HK.out X (HQ.out X hX)
                          exact ⟨hX, g0, g1, g2, g3, g4, mv _ _ h1, mv _ _ h2, mv _ _ h5⟩
                        have hbd : Below w1.heap.size w1 wr.drew := hb.drew
                        clear hval hI64 htm hte h1 h2 h5
                        obtain ⟨_, -, -, -, -, -, f0, f1, f2⟩ := HKS.out wr hb
                        go_wp2_with fail
                        clear k0 k1' k2' k3' k4 f0 f1 f2
                        go_region_held3 (fun w' => Below w1.heap.size w1 w' ∧ w'.cell? ⟨b0, 0, none⟩ = some (.slice A1 n1 c1) ∧ w'.cell? ⟨b0, 1, none⟩ = some (.slice A2 n2 c2) ∧ w'.cell? ⟨b0, 2, none⟩ = some (.slice A3 n3 c3) ∧ w'.cell? ⟨b0, 3, none⟩ = some (.slice (some ⟨q4, off4, none⟩) n4 c4) ∧ w'.cell? ⟨b0, 4, none⟩ = some (.slice (some ⟨q, off, none⟩) n5 c5) ∧ w'.cell? ⟨q, off + k * 2, none⟩ = some (.int .i64 (m : Int)) ∧ w'.cell? ⟨q, off + k * 2 + 1, none⟩ = some (.int .i64 x) ∧ w'.cell? ⟨q4, off4 + m * 2, none⟩ = some (.string nm))
                          (first
                            | with_reducible assumption
                            | exact HKS.out _ hbd)
                          (first
                            | (go_at_call 61; refine (HVF.out _).mono ?_; rintro e wF ⟨rfl, rfl⟩))
                        have hfin := (‹Below w1.heap.size w1 _ ∧ _›).1
                        go_wp2
                        go_roundw
                        case rel => exact ⟨k + 1, by omega, by go_num, by rw [HAP.out], hfin⟩
                        case measure => simp [intOf]; omega
                      · obtain rfl : n5 = k := by omega
                        have HTX : Hid (p.tA n1 n2 n3 n4 n5 = p.txt) := Lib.hid (by rw [← HN1.out, ← HN2.out, ← HN3.out, ← HN4.out, ← HN5.out]; exact tAll p)
                        rw [HTX.out] at hso ⊢
                        generalize bs p.txt = st at *
                        by_cases hlim : 16384 < st.size
                        · have HZ := Lib.hid (HR2.out (by first | trivial | rfl) hlim)
                          go_wp2
                          go_ret2
                          exact ⟨HZ.out.symm, belowThen HBW.out (HQ.out _ hb)⟩
                        · have HZ := Lib.hid (HR3.out (by first | trivial | rfl) hlim)
                          go_wp2
                          go_ret2
                          exact ⟨HZ.out.symm, belowThen HBW.out (HQ.out _ hb)⟩
  · have hk1' : (k1 != 0) = true := by simpa using hk1
    have HZ := Lib.hid (HR1.out hk1)
    clear hk1
    go_wp2_with fail
    refine (HCK.out _ (HP.out _ (Below.refl _ _))).mono ?_
    rintro e w1 ⟨rfl, b1'⟩
    go_wp2
    go_ret2
    exact ⟨by rw [HZ.out]; rfl, belowThen HBW.out b1'⟩
end Go.Proofs.YtnckpjcfgeajbaaGreatDoor

namespace Go.Proofs.YtnckpjcfgeajbaaGreatDoor
open Go Go.RowKit

set_option maxRecDepth 100000 in
set_option maxHeartbeats 8000000 in
theorem lawPrograms {a : PgA} {p : Prg} (w : World) (hP : PgW w a p) (hW : p.Wf) (hL : LaidE w) : Calls Tryz.prog 7 #[a.val] w (LawOkD w) := by
  obtain ⟨W, hWE⟩ : ∃ W, w.alloc (.cells a.fs 28) = W := ⟨_, rfl⟩
  have hbW : Below w.heap.size w W := by rw [← hWE]; exact belowAlloc w _
  have hB : PBox W w.heap.size a := by rw [← hWE]; exact Blk.new w _ _
  have H1 := Lib.hid (fun X (hX : PgW X a p) => rSmall X hX)
  have HDI := Lib.hid (fun X (hX : PgW X a p) (hT : LaidE X) => dProg X hX hW hT.d)
  have HRI := Lib.hid (fun (hs : p.small = true) X (hX : PgW X a p) => rProg X hX hW hs)
  generalize p.disR = x at HDI HRI
  have HL := Lib.hid (fun X (hX : Below W.heap.size W X) => (hL.below hbW).below hX)
  have HP := Lib.hid (fun X (hX : Below W.heap.size W X) => (hP.below hbW).below hX)
  have HKB := Lib.hid hB
  obtain ⟨b0, hb0⟩ : ∃ b0, w.heap.size = b0 := ⟨_, rfl⟩
  have HBB := Lib.hid hbW
  have HB0 := Lib.hid hb0
  have HWE := Lib.hid hWE
  obtain ⟨A1, n1, c1, A2, n2, c2, A3, n3, c3, A4, n4, c4, A5, n5, c5⟩ := a
  simp only [PgA.val, PgA.fs] at *
  have HK : Hid (∀ X, Below W.heap.size W X → X.cell? ⟨b0, 0, none⟩ = some (.slice A1 n1 c1) ∧ X.cell? ⟨b0, 1, none⟩ = some (.slice A2 n2 c2) ∧ X.cell? ⟨b0, 2, none⟩ = some (.slice A3 n3 c3) ∧ X.cell? ⟨b0, 3, none⟩ = some (.slice A4 n4 c4) ∧ X.cell? ⟨b0, 4, none⟩ = some (.slice A5 n5 c5)) := by
    refine Lib.hid fun X hX => ?_
    obtain ⟨g0, g1, g2, g3, g4⟩ := (HKB.out.below hX).facts
    rw [hb0] at g0 g1 g2 g3 g4
    exact ⟨g0, g1, g2, g3, g4⟩
  clear hP hL hB hbW hWE hb0 HKB hW
  cases hsm : p.small
  · rw [hsm] at H1
    clear hsm
    go_enter Tryz.func7, Tryz.ntmps7
    go_wp2_with fail
    rw [HWE.out]
    rw [HB0.out]
    obtain ⟨k0, k1', k2', k3', k4⟩ := HK.out W (Below.refl _ _)
    go_wp2_with fail
    refine (H1.out _ (HP.out _ (Below.refl _ _))).mono ?_
    rintro e w1 ⟨rfl, q1⟩
    go_wp2_with fail
    refine (dLives _ (HL.out _ q1)).mono ?_
    rintro e w2 ⟨rfl, q2⟩
    go_wp2
    go_ret
    exact ⟨rfl, belowThen HBB.out (belowThen q1 q2)⟩
  rw [hsm] at H1
  have HRI := Lib.hid (HRI.out hsm)
  clear hsm
  go_enter Tryz.func7, Tryz.ntmps7
  go_wp2_with fail
  rw [HWE.out]
  rw [HB0.out]
  obtain ⟨k0, k1', k2', k3', k4⟩ := HK.out W (Below.refl _ _)
  go_wp2_with fail
  refine (H1.out _ (HP.out _ (Below.refl _ _))).mono ?_
  rintro e w1 ⟨rfl, q1⟩
  have HS1 := Lib.hid q1
  clear q1 k0 k1' k2' k3' k4
  obtain ⟨k0, k1', k2', k3', k4⟩ := HK.out w1 HS1.out
  go_wp2_with fail
  refine (HDI.out _ (HP.out _ HS1.out) (HL.out _ HS1.out)).mono ?_
  rintro e w2 ⟨he, q2⟩
  have he : e = .returned (.tuple #[.string (bs x.t), .int .i64 x.e]) := he
  subst he
  have HS2 := Lib.hid (belowThen HS1.out q2)
  clear q2 k0 k1' k2' k3' k4
  obtain ⟨k0, k1', k2', k3', k4⟩ := HK.out w2 HS2.out
  go_wp2_with fail
  refine (HRI.out _ (HP.out _ HS2.out)).mono ?_
  rintro e w3 ⟨he, q3⟩
  have he : e = .returned (.tuple #[.string (bs x.t), .int .i64 x.e]) := he
  subst he
  have HS3 := Lib.hid (belowThen HS2.out q3)
  clear q3 k0 k1' k2' k3' k4
  generalize bs x.t = st
  generalize x.e = ex
  go_wp2_with fail
  refine (dLives _ (HL.out _ HS3.out)).mono ?_
  rintro e w4 ⟨rfl, q4⟩
  go_wp2
  go_ret
  exact ⟨by simp, belowThen HBB.out (belowThen HS3.out q4)⟩
end Go.Proofs.YtnckpjcfgeajbaaGreatDoor

namespace Go.Proofs.YtnckpjcfgeajbaaGreatDoor.disasmPrograms
open Go Go.ChangeShapes Go.WideShapes Go.ChangeAt Go.WideMaps Go.WideElems Go.RowKit Go.ChangeMaps

set_option maxRecDepth 100000 in
theorem lifted (os : Os) (started : os.Started) (H : Type) (enc : TypeId × Value → H) :
    ReturnsInHanded {} Tryz.checked os 7 .any (fun w args => (Rows.disasmProgramsSpec.pre enc Tryz.prog Tryz.f7 [] false w args ∧ laidMetH Tryz.prog laidE w) ∧ sizedMet enc Tryz.prog Tryz.f7 (OpenSpec.ofChange Rows.disasmProgramsSpec) false w args)
      (Rows.disasmProgramsSpec.post enc Tryz.prog Tryz.f7 false true false false) := by
  refine returnsInHanded_of_change_and (C := Tryz.checked) (X := fun w _ => laidMetH Tryz.prog laidE w) (fun _ _ _ hh h => h.of_heap hh) ownKnob0 started (by kernel_rfl) Tryz.func7
    (ChangeSpec.witness_shaped (enc := enc) (C := Tryz.checked) (os := os) (X := fun w _ => laidMetH Tryz.prog laidE w) false (World.doorLaid Tryz.prog 400 os) #[.agg #[.slice none 0 0, .slice none 0 0, .slice none 0 0, .slice none 0 0, .slice none 0 0]] 8 rfl (World.shaped_of_RefB (by kernel_rfl) (by kernel_rfl)) (by kernel_rfl) (by kernel_rfl) (by kernel_rfl) (doorE os _)) ?_
  intro W base args ds gs before hval0 hW _ _ hL _
  have hval : ∀ (j : Nat) t v, Tryz.f7.params[j]? = some t → args[j]? = some v → Value.okWide Tryz.prog W .any base t v := hval0
  have hW' := hW
  obtain ⟨p, q, hA0, hV, rfl, hfz, hnd⟩ := hW
  have hA : DataW.TrodAll enc Tryz.prog W 0 (fun _ => true) true Tryz.f7.params.toList args.toList ds p := hA0
  rw [Tryz.params7] at hA hval
  obtain ⟨v0, vs0, d0, ds0, p0, q0, hargs, rfl, rfl, h0, r0⟩ := trodAll_cons hA
  obtain ⟨rfl, rfl, rfl⟩ := trodAll_nil r0
  obtain rfl : args = #[v0] := by cases args; simp_all
  obtain ⟨rfl, rfl⟩ := trodVars_none hV
  have g0 := h0
  obtain ⟨a0, pg0, rfl, pw0, gw0⟩ := openPg (hval 0 28 v0 rfl rfl) h0
  clear hA0 hval0
  simp only [List.append_nil] at hW'
  refine (lawPrograms W pw0 gw0 (metE hL)).mono fun e W' ⟨he, hb⟩ => ?_
  subst he
  exact ⟨_, rfl, _, _, _, [], _, [], hW', trodAll_cons_mk (shut_bool Tryz.underlying4 _) trodAll_mk0, trodAll_cons_mk (Below.trod laidOut0 (by kernel_rfl) (of_decide_eq_true (by kernel_rfl)) g0 hb (fun y hy => by simpa using hW'.lt y (by simp [hy]))) (trodAll_mk0), rfl, hb.frame _, fun h => by cases h⟩

theorem over : Rows.disasmProgramsRow.holds Tryz.pinned (OpenSpec.ofChange Rows.disasmProgramsSpec) :=
  OpenClaim.holds_of_wide 7 Tryz.f7 rfl rfl rfl rfl rfl rfl rfl ⟨rfl, rfl, rfl, rfl, rfl⟩ rfl rfl rfl rfl rfl (by kernel_rfl) Tryz.func7 (by kernel_rfl)
    (of_decide_eq_true (by kernel_rfl)) (by unfold Func.isWrapper; first | (rw [if_pos (by decide +kernel)]; kernel_rfl) | (rw [if_neg (by decide +kernel)]; exact ⟨rfl, rfl⟩))
    (fun os started H enc _ => lifted os started H enc)

theorem proved : Rows.DisasmProgramsCardSaid :=
  Claim7.holds_tied_plain_at .later [] [.data, .data, .data, .data, .data, .data, .data] true Rows.disasmProgramsCard.stood.harness true
    over (fun _ h => by cases h) (by kernel_rfl) (fun _ h => by cases h) disasmPrograms_row_tie rfl ⟨rfl, rfl⟩ (by kernel_rfl) rfl
    (fun f fn hf hfn => by
      obtain rfl : f = 7 := Option.some.inj ((show Tryz.prog.funcNamed Rows.disasmProgramsRow.func = some 7 by kernel_rfl).symm.trans hf) |>.symm
      obtain rfl : fn = Tryz.f7 := (Option.some.inj (Tryz.func7.symm.trans hfn)).symm
      exact ⟨by kernel_rfl, fun j t ht => by
        rw [Tryz.params7] at ht
        have hm : t ∈ [28] := by simpa using Array.mem_of_getElem? ht
        have hall : ([28].all fun u => !Tryz.prog.wantsStandIn u) = true := by kernel_rfl
        exact (show Tryz.prog.wantsStandIn t = false by simpa using List.all_eq_true.1 hall t hm)⟩)
    (by kernel_rfl)
#print axioms proved
end Go.Proofs.YtnckpjcfgeajbaaGreatDoor.disasmPrograms
