/-
  The law DisasmInstructions holds: for every program and every instruction it returns true and leaves its arguments as they were, where the listed variables are laid as the program's text lays them.
-/
import Derived.Test.YtnckpjcfgeajbaaGreatDoorZmR
import Derived.Test.YtnckpjcfgeajbaaGreatDoorZmG
import Derived.Test.YtnckpjcfgeajbaaGreatDoorCards
import Derived.SevenTiedAt
import Derived.ShutString
import Derived.ChangeMaps5
import Derived.Carry
namespace Go.Proofs.YtnckpjcfgeajbaaGreatDoor
open Go Go.RowKit

theorem insBy {p : Prg} {i : I8} (h : i.chk = 0) : p.insT i = if (p.rtW i).e ≠ 0 then .no 11 else if (i.op = 4 ∨ i.op = 5) ∧ belB i.n 65 = false then .no 12 else p.rtW i := by
  rw [insRef h]
  unfold Prg.rtW
  by_cases ha : allW (p.lws i) = true
  · rw [if_pos ha, if_pos ha, if_neg (show ¬ (Wd.ok _).e ≠ 0 from fun h => h rfl)]
  · rw [if_neg ha, if_neg ha, if_pos (show (Wd.no 11).e ≠ 0 by decide)]
theorem rtE (p : Prg) (i : I8) : (p.rtW i).e = 0 ∨ p.rtW i = .no 11 := by
  unfold Prg.rtW
  split
  · exact .inl rfl
  · exact .inr rfl
set_option maxRecDepth 100000 in
set_option maxHeartbeats 8000000 in
theorem rInstr11 {a : PgA} {p : Prg} (i : I8) (hi : i.Wf) (w : World) (hP : PgW w a p) (hW : p.Wf) (hsm : p.small = true) : Calls Tryz.prog 25 #[a.val, i.val] w fun e w' => e = gvW (p.insR i) ∧ Below w.heap.size w w' := by
  obtain ⟨W, hWE⟩ : ∃ W, w.alloc (.cells a.fs 28) = W := ⟨_, rfl⟩
  have hbW : Below w.heap.size w W := by rw [← hWE]; exact belowAlloc w _
  have hB : PBox W w.heap.size a := by rw [← hWE]; exact Blk.new w _ _
  have hz : W.heap.size = w.heap.size + 1 := by rw [← hWE]; simp
  have HCK := Lib.hid (fun X (hX : PgW X a p) => rCheckP X hX hW hsm)
  have HCI := Lib.hid (fun X => rCheck i i.chk rfl X)
  have HTX := Lib.hid (fun (hv : p.Vld) (ho : 1 ≤ i.op ∧ i.op ≤ 22) X (hX : PgW X a p) => rText hv i hi ho X hX)
  obtain ⟨r, hr⟩ : ∃ r, p.insR i = r := ⟨_, rfl⟩
  rw [hr]
  have HR1 : Hid (p.chk.1 ≠ 0 → r = .no p.chk.1) := Lib.hid fun h => by rw [← hr, Prg.insR, if_pos h]
  have HR2 : Hid (p.chk.1 = 0 → i.chk ≠ 0 → r = .no i.chk) := Lib.hid fun h h2 => by rw [← hr, Prg.insR, if_neg (by simpa using h), if_pos h2]
  have HR3 : Hid (p.chk.1 = 0 → i.chk = 0 → r = if (p.rtW i).e ≠ 0 then .no 11 else if (i.op = 4 ∨ i.op = 5) ∧ belB i.n 65 = false then .no 12 else p.rtW i) := Lib.hid fun h h2 => by rw [← hr, Prg.insR, if_neg (by simpa using h), if_neg (by simpa using h2), insBy h2]
  have HGO : Hid (i.chk = 0 → 1 ≤ i.op ∧ i.op ≤ 22) := Lib.hid fun h => (I8.good h).op
  generalize p.rtW i = x at HTX HR3
  generalize i.chk = ci at *
  obtain ⟨k1, k2, k3, hchk⟩ : ∃ k1 k2 k3, p.chk = (k1, k2, k3) := ⟨_, _, _, rfl⟩
  have HVL : Hid (k1 = 0 → p.Vld) := Lib.hid fun h => p.vld (by rw [hchk]; exact h)
  rw [hchk] at HR1 HR2 HR3
  simp only at HR1 HR2 HR3
  simp only [hchk, err3] at HCK
  clear hr hchk hW hsm
  obtain ⟨op, a', b', c', obj, n, fn, ord⟩ := i
  obtain ⟨V, hVE⟩ : ∃ V, W.alloc (.cells #[.int .i64 op, .int .i64 a', .int .i64 b', .int .i64 c', .int .i64 obj, .int .i64 n, .int .i64 fn, .int .i64 ord] 41) = V := ⟨_, rfl⟩
  have hbV : Below W.heap.size W V := by rw [← hVE]; exact belowAlloc W _
  have hI : Blk V W.heap.size 41 #[.int .i64 op, .int .i64 a', .int .i64 b', .int .i64 c', .int .i64 obj, .int .i64 n, .int .i64 fn, .int .i64 ord] := by rw [← hVE]; exact Blk.new W _ _
  rw [hz] at hI
  have hbB := belowThen hbW hbV
  have HKB := Lib.hid (hB.below hbV)
  have HKI := Lib.hid hI
  have HP := Lib.hid (fun X (hX : Below V.heap.size V X) => (hP.below hbB).below hX)
  obtain ⟨A1, n1, c1, A2, n2, c2, A3, n3, c3, A4, n4, c4, A5, n5, c5⟩ := a
  simp only [PgA.val, PgA.fs, I8.val] at *
  obtain ⟨b0, hb0⟩ : ∃ b0, w.heap.size = b0 := ⟨_, rfl⟩
  obtain ⟨b1, hb1⟩ : ∃ b1, w.heap.size + 1 = b1 := ⟨_, rfl⟩
  have HBB := Lib.hid hbB
  have HB0 := Lib.hid hb0
  have HB1 := Lib.hid hb1
  have HK : Hid (∀ X, Below V.heap.size V X → Below V.heap.size V X ∧ X.cell? ⟨b0, 0, none⟩ = some (.slice A1 n1 c1) ∧ X.cell? ⟨b0, 1, none⟩ = some (.slice A2 n2 c2) ∧ X.cell? ⟨b0, 2, none⟩ = some (.slice A3 n3 c3) ∧ X.cell? ⟨b0, 3, none⟩ = some (.slice A4 n4 c4) ∧ X.cell? ⟨b0, 4, none⟩ = some (.slice A5 n5 c5) ∧ X.cell? ⟨b1, 0, none⟩ = some (.int .i64 op) ∧ X.cell? ⟨b1, 1, none⟩ = some (.int .i64 a') ∧ X.cell? ⟨b1, 2, none⟩ = some (.int .i64 b') ∧ X.cell? ⟨b1, 3, none⟩ = some (.int .i64 c') ∧ X.cell? ⟨b1, 4, none⟩ = some (.int .i64 obj) ∧ X.cell? ⟨b1, 5, none⟩ = some (.int .i64 n) ∧ X.cell? ⟨b1, 6, none⟩ = some (.int .i64 fn) ∧ X.cell? ⟨b1, 7, none⟩ = some (.int .i64 ord)) := by
    refine Lib.hid fun X hX => ?_
    obtain ⟨g0, g1, g2, g3, g4⟩ := (HKB.out.below hX).facts
    have hJ := HKI.out.below' hX
    rw [hb1] at hJ
    rw [hb0] at g0 g1 g2 g3 g4
    exact ⟨hX, g0, g1, g2, g3, g4, hJ.cell 0, hJ.cell 1, hJ.cell 2, hJ.cell 3, hJ.cell 4, hJ.cell 5, hJ.cell 6, hJ.cell 7⟩
  have HWE := Lib.hid hWE
  have HVE := Lib.hid hVE
  clear hP hB hbW hbV hWE hVE hI hbB hb0 hb1 HKB HKI
  clear hi
  go_enter Tryz.func25, Tryz.ntmps25
  go_wp2_with fail
  rw [HWE.out, HVE.out]
  rw [HB1.out, HB0.out]
  obtain ⟨q, k0, k1', k2', k3', k4, r0, r1, r2, r3, r4, r5, r6, r7⟩ := HK.out V (Below.refl _ _)
  clear q
  by_cases hk1 : k1 = 0
  · subst hk1
    have HV2 := Lib.hid (HVL.out (by first | trivial | rfl))
    go_wp2_with fail
    refine (HCK.out _ (HP.out _ (Below.refl _ _))).mono ?_
    rintro e w1 ⟨rfl, q1⟩
    have HS1 := Lib.hid q1
    clear q1 k0 k1' k2' k3' k4 r0 r1 r2 r3 r4 r5 r6 r7
    obtain ⟨q, k0, k1', k2', k3', k4, r0, r1, r2, r3, r4, r5, r6, r7⟩ := HK.out w1 HS1.out
    clear q
    by_cases hc : ci = 0
    · subst hc
      have HZ := Lib.hid (HR3.out (by first | trivial | rfl) (by first | trivial | rfl))
      have HO2 := Lib.hid (HGO.out (by first | trivial | rfl))
      go_wp2_with fail
      refine (HCI.out _).mono ?_
      rintro e w2 ⟨rfl, q2⟩
      have HS2 := Lib.hid (belowThen HS1.out q2)
      clear q2 k0 k1' k2' k3' k4 r0 r1 r2 r3 r4 r5 r6 r7
      obtain ⟨q, k0, k1', k2', k3', k4, r0, r1, r2, r3, r4, r5, r6, r7⟩ := HK.out w2 HS2.out
      clear q
      go_wp2_with fail
      refine (HTX.out HV2.out HO2.out _ (HP.out _ HS2.out)).mono ?_
      rintro e w3 ⟨he, q3⟩
      have he : e = .returned (.tuple #[.string (bs x.t), .bool (decide (x.e = 0))]) := he
      subst he
      have HS3 := Lib.hid (belowThen HS2.out q3)
      clear q3 k0 k1' k2' k3' k4 r0 r1 r2 r3 r4 r5 r6 r7
      obtain ⟨q, k0, k1', k2', k3', k4, r0, r1, r2, r3, r4, r5, r6, r7⟩ := HK.out w3 HS3.out
      clear q
      generalize hsx : bs x.t = sx at *
      have HSX := Lib.hid hsx
      clear hsx
      by_cases h0 : x.e = 0
      · rw [decide_eq_true h0]
        have HX0 : Hid (gvW x = .returned (.tuple #[.string sx, .int .i64 0])) := Lib.hid (by rw [gvW, HSX.out, h0])
        have hz1 : ¬ x.e ≠ 0 := fun h => h h0
        by_cases h4 : op = 4 ∨ op = 5
        · by_cases hn0 : n < 0
          · have HY := Lib.hid (HZ.out.trans ((if_neg hz1).trans (if_pos ⟨h4, by simp [belB]; omega⟩)))
            clear hz1 h0
            rcases h4 with rfl | rfl
            all_goals (
              go_wp2
              all_goals go_ret2
              all_goals first | exact ⟨by rw [HY.out]; rfl, belowThen HBB.out HS3.out⟩ | (exfalso; omega))
          · by_cases hn1 : 64 < n
            · have HY := Lib.hid (HZ.out.trans ((if_neg hz1).trans (if_pos ⟨h4, by simp [belB]; omega⟩)))
              clear hz1 h0
              rcases h4 with rfl | rfl
              all_goals (
                go_wp2
                all_goals go_ret2
                all_goals first | exact ⟨by rw [HY.out]; rfl, belowThen HBB.out HS3.out⟩ | (exfalso; omega))
            · have HY := Lib.hid (HZ.out.trans ((if_neg hz1).trans (if_neg fun hh => absurd hh.2 (by simp [belB]; omega))))
              clear hz1 h0
              rcases h4 with rfl | rfl
              all_goals (
                go_wp2
                all_goals go_ret2
                all_goals first | exact ⟨by rw [HY.out, HX0.out]; rfl, belowThen HBB.out HS3.out⟩ | (exfalso; omega))
        · have HY := Lib.hid (HZ.out.trans ((if_neg hz1).trans (if_neg fun hh => h4 hh.1)))
          have f4 : (op == 4) = false := by simp; omega
          have f5 : (op == 5) = false := by simp; omega
          clear hz1 h0 h4
          go_wp2
          all_goals go_ret2
          all_goals first | exact ⟨by rw [HY.out, HX0.out]; rfl, belowThen HBB.out HS3.out⟩ | (exfalso; omega)
      · rw [decide_eq_false h0]
        have HY := Lib.hid (HZ.out.trans (if_pos h0))
        clear h0
        go_wp2
        go_ret2
        exact ⟨by rw [HY.out]; rfl, belowThen HBB.out HS3.out⟩
    · have hc' : (ci != 0) = true := by simpa using hc
      have HZ := Lib.hid (HR2.out (by first | trivial | rfl) hc)
      clear hc
      go_wp2_with fail
      refine (HCI.out _).mono ?_
      rintro e w2 ⟨rfl, q2⟩
      go_wp2
      go_ret2
      exact ⟨by rw [HZ.out]; rfl, belowThen HBB.out (belowThen HS1.out q2)⟩
  · have hk1' : (k1 != 0) = true := by simpa using hk1
    have HZ := Lib.hid (HR1.out hk1)
    clear hk1
    go_wp2_with fail
    refine (HCK.out _ (HP.out _ (Below.refl _ _))).mono ?_
    rintro e w1 ⟨rfl, q1⟩
    go_wp2
    go_ret2
    exact ⟨by rw [HZ.out]; rfl, belowThen HBB.out q1⟩
set_option maxRecDepth 100000 in
set_option maxHeartbeats 8000000 in
theorem lawInstructions {a : PgA} {p : Prg} (i : I8) (hi : i.Wf) (w : World) (hP : PgW w a p) (hW : p.Wf) (hL : LaidE w) : Calls Tryz.prog 8 #[a.val, i.val] w (LawOkD w) := by
  obtain ⟨W, hWE⟩ : ∃ W, w.alloc (.cells a.fs 28) = W := ⟨_, rfl⟩
  have hbW : Below w.heap.size w W := by rw [← hWE]; exact belowAlloc w _
  have hB : PBox W w.heap.size a := by rw [← hWE]; exact Blk.new w _ _
  have hz : W.heap.size = w.heap.size + 1 := by rw [← hWE]; simp
  have H1 := Lib.hid (fun X (hX : PgW X a p) => rSmall X hX)
  have HDI := Lib.hid (fun X (hX : PgW X a p) (hT : LaidE X) => dInstr i hi X hX hW hT.d)
  have HRI := Lib.hid (fun (hs : p.small = true) X (hX : PgW X a p) => rInstr11 i hi X hX hW hs)
  generalize p.insR i = x at HDI HRI
  obtain ⟨op, a', b', c', obj, n, fn, ord⟩ := i
  obtain ⟨V, hVE⟩ : ∃ V, W.alloc (.cells #[.int .i64 op, .int .i64 a', .int .i64 b', .int .i64 c', .int .i64 obj, .int .i64 n, .int .i64 fn, .int .i64 ord] 41) = V := ⟨_, rfl⟩
  have hbV : Below W.heap.size W V := by rw [← hVE]; exact belowAlloc W _
  have hI : Blk V W.heap.size 41 #[.int .i64 op, .int .i64 a', .int .i64 b', .int .i64 c', .int .i64 obj, .int .i64 n, .int .i64 fn, .int .i64 ord] := by rw [← hVE]; exact Blk.new W _ _
  rw [hz] at hI
  have hbB := belowThen hbW hbV
  have HKB := Lib.hid (hB.below hbV)
  have HKI := Lib.hid hI
  have HP := Lib.hid (fun X (hX : Below V.heap.size V X) => (hP.below hbB).below hX)
  obtain ⟨A1, n1, c1, A2, n2, c2, A3, n3, c3, A4, n4, c4, A5, n5, c5⟩ := a
  simp only [PgA.val, PgA.fs, I8.val] at *
  obtain ⟨b0, hb0⟩ : ∃ b0, w.heap.size = b0 := ⟨_, rfl⟩
  obtain ⟨b1, hb1⟩ : ∃ b1, w.heap.size + 1 = b1 := ⟨_, rfl⟩
  have HBB := Lib.hid hbB
  have HB0 := Lib.hid hb0
  have HB1 := Lib.hid hb1
  have HK : Hid (∀ X, Below V.heap.size V X → Below V.heap.size V X ∧ X.cell? ⟨b0, 0, none⟩ = some (.slice A1 n1 c1) ∧ X.cell? ⟨b0, 1, none⟩ = some (.slice A2 n2 c2) ∧ X.cell? ⟨b0, 2, none⟩ = some (.slice A3 n3 c3) ∧ X.cell? ⟨b0, 3, none⟩ = some (.slice A4 n4 c4) ∧ X.cell? ⟨b0, 4, none⟩ = some (.slice A5 n5 c5) ∧ X.cell? ⟨b1, 0, none⟩ = some (.int .i64 op) ∧ X.cell? ⟨b1, 1, none⟩ = some (.int .i64 a') ∧ X.cell? ⟨b1, 2, none⟩ = some (.int .i64 b') ∧ X.cell? ⟨b1, 3, none⟩ = some (.int .i64 c') ∧ X.cell? ⟨b1, 4, none⟩ = some (.int .i64 obj) ∧ X.cell? ⟨b1, 5, none⟩ = some (.int .i64 n) ∧ X.cell? ⟨b1, 6, none⟩ = some (.int .i64 fn) ∧ X.cell? ⟨b1, 7, none⟩ = some (.int .i64 ord)) := by
    refine Lib.hid fun X hX => ?_
    obtain ⟨g0, g1, g2, g3, g4⟩ := (HKB.out.below hX).facts
    have hJ := HKI.out.below' hX
    rw [hb1] at hJ
    rw [hb0] at g0 g1 g2 g3 g4
    exact ⟨hX, g0, g1, g2, g3, g4, hJ.cell 0, hJ.cell 1, hJ.cell 2, hJ.cell 3, hJ.cell 4, hJ.cell 5, hJ.cell 6, hJ.cell 7⟩
  have HWE := Lib.hid hWE
  have HVE := Lib.hid hVE
  have HL := Lib.hid (fun X (hX : Below V.heap.size V X) => (hL.below hbB).below hX)
  clear hL hP hB hbW hbV hWE hVE hI hbB hb0 hb1 HKB HKI
  clear hi hW
  cases hsm : p.small
  · rw [hsm] at H1
    clear hsm
    go_enter Tryz.func8, Tryz.ntmps8
    go_wp2_with fail
    rw [HWE.out, HVE.out]
    rw [HB1.out, HB0.out]
    obtain ⟨q, k0, k1', k2', k3', k4, r0, r1, r2, r3, r4, r5, r6, r7⟩ := HK.out V (Below.refl _ _)
    clear q
    go_wp2_with fail
    refine (H1.out _ (HP.out _ (Below.refl _ _))).mono ?_
    rintro e w1 ⟨rfl, q1⟩
    go_wp2_with fail
    refine (dLives _ (HL.out _ q1)).mono ?_
    rintro e w2 ⟨rfl, q2⟩
    go_wp2
    go_ret
    exact ⟨rfl, belowThen HBB.out (belowThen q1 q2)⟩
  rw [hsm] at H1
  have HRI := Lib.hid (HRI.out hsm)
  clear hsm
  go_enter Tryz.func8, Tryz.ntmps8
  go_wp2_with fail
  rw [HWE.out, HVE.out]
  rw [HB1.out, HB0.out]
  obtain ⟨q, k0, k1', k2', k3', k4, r0, r1, r2, r3, r4, r5, r6, r7⟩ := HK.out V (Below.refl _ _)
  clear q
  go_wp2_with fail
  refine (H1.out _ (HP.out _ (Below.refl _ _))).mono ?_
  rintro e w1 ⟨rfl, q1⟩
  have HS1 := Lib.hid q1
  clear q1 k0 k1' k2' k3' k4 r0 r1 r2 r3 r4 r5 r6 r7
  obtain ⟨q, k0, k1', k2', k3', k4, r0, r1, r2, r3, r4, r5, r6, r7⟩ := HK.out w1 HS1.out
  clear q
  go_wp2_with fail
  refine (HDI.out _ (HP.out _ HS1.out) (HL.out _ HS1.out)).mono ?_
  rintro e w2 ⟨he, q2⟩
  have he : e = .returned (.tuple #[.string (bs x.t), .int .i64 x.e]) := he
  subst he
  have HS2 := Lib.hid (belowThen HS1.out q2)
  clear q2 k0 k1' k2' k3' k4 r0 r1 r2 r3 r4 r5 r6 r7
  obtain ⟨q, k0, k1', k2', k3', k4, r0, r1, r2, r3, r4, r5, r6, r7⟩ := HK.out w2 HS2.out
  clear q
  go_wp2_with fail
  refine (HRI.out _ (HP.out _ HS2.out)).mono ?_
  rintro e w3 ⟨he, q3⟩
  have he : e = .returned (.tuple #[.string (bs x.t), .int .i64 x.e]) := he
  subst he
  have HS3 := Lib.hid (belowThen HS2.out q3)
  clear q3 k0 k1' k2' k3' k4 r0 r1 r2 r3 r4 r5 r6 r7
  generalize bs x.t = st
  generalize x.e = ex
  go_wp2_with fail
  refine (dLives _ (HL.out _ HS3.out)).mono ?_
  rintro e w4 ⟨rfl, q4⟩
  go_wp2
  go_ret
  exact ⟨by simp, belowThen HBB.out (belowThen HS3.out q4)⟩
end Go.Proofs.YtnckpjcfgeajbaaGreatDoor

namespace Go.Proofs.YtnckpjcfgeajbaaGreatDoor.disasmInstructions
open Go Go.ChangeShapes Go.WideShapes Go.ChangeAt Go.WideMaps Go.WideElems Go.RowKit Go.ChangeMaps

set_option maxRecDepth 100000 in
theorem lifted (os : Os) (started : os.Started) (H : Type) (enc : TypeId × Value → H) :
    ReturnsInHanded {} Tryz.checked os 8 .any (fun w args => (Rows.disasmInstructionsSpec.pre enc Tryz.prog Tryz.f8 [] false w args ∧ laidMetH Tryz.prog laidE w) ∧ sizedMet enc Tryz.prog Tryz.f8 (OpenSpec.ofChange Rows.disasmInstructionsSpec) false w args)
      (Rows.disasmInstructionsSpec.post enc Tryz.prog Tryz.f8 false true false false) := by
  refine returnsInHanded_of_change_and (C := Tryz.checked) (X := fun w _ => laidMetH Tryz.prog laidE w) (fun _ _ _ hh h => h.of_heap hh) ownKnob0 started (by kernel_rfl) Tryz.func8
    (ChangeSpec.witness_shaped (enc := enc) (C := Tryz.checked) (os := os) (X := fun w _ => laidMetH Tryz.prog laidE w) false (World.doorLaid Tryz.prog 400 os) #[.agg #[.slice none 0 0, .slice none 0 0, .slice none 0 0, .slice none 0 0, .slice none 0 0], .agg #[.int .i64 0, .int .i64 0, .int .i64 0, .int .i64 0, .int .i64 0, .int .i64 0, .int .i64 0, .int .i64 0]] 8 rfl (World.shaped_of_RefB (by kernel_rfl) (by kernel_rfl)) (by kernel_rfl) (by kernel_rfl) (by kernel_rfl) (doorE os _)) ?_
  intro W base args ds gs before hval0 hW _ _ hL _
  have hval : ∀ (j : Nat) t v, Tryz.f8.params[j]? = some t → args[j]? = some v → Value.okWide Tryz.prog W .any base t v := hval0
  have hW' := hW
  obtain ⟨p, q, hA0, hV, rfl, hfz, hnd⟩ := hW
  have hA : DataW.TrodAll enc Tryz.prog W 0 (fun _ => true) true Tryz.f8.params.toList args.toList ds p := hA0
  rw [Tryz.params8] at hA hval
  obtain ⟨v0, vs0, d0, ds0, p0, q0, hargs, rfl, rfl, h0, r0⟩ := trodAll_cons hA
  obtain ⟨v1, vs1, d1, ds1, p1, q1, rfl, rfl, rfl, h1, r1⟩ := trodAll_cons r0
  obtain ⟨rfl, rfl, rfl⟩ := trodAll_nil r1
  obtain rfl : args = #[v0, v1] := by cases args; simp_all
  obtain ⟨rfl, rfl⟩ := trodVars_none hV
  have g0 := h0
  have g1 := h1
  obtain ⟨a0, pg0, rfl, pw0, gw0⟩ := openPg (hval 0 28 v0 rfl rfl) h0
  obtain ⟨a1, rfl, w1⟩ := openI8 (hval 1 41 v1 rfl rfl) h1
  clear hA0 hval0
  simp only [List.append_nil] at hW'
  refine (lawInstructions a1 w1 W pw0 gw0 (metE hL)).mono fun e W' ⟨he, hb⟩ => ?_
  subst he
  exact ⟨_, rfl, _, _, _, [], _, [], hW', trodAll_cons_mk (shut_bool Tryz.underlying4 _) trodAll_mk0, trodAll_cons_mk (Below.trod laidOut0 (by kernel_rfl) (of_decide_eq_true (by kernel_rfl)) g0 hb (fun y hy => by simpa using hW'.lt y (by simp [hy]))) (trodAll_cons_mk (Below.trod laidOut0 (by kernel_rfl) (of_decide_eq_true (by kernel_rfl)) g1 hb (fun y hy => by simpa using hW'.lt y (by simp [hy]))) (trodAll_mk0)), rfl, hb.frame _, fun h => by cases h⟩

theorem over : Rows.disasmInstructionsRow.holds Tryz.pinned (OpenSpec.ofChange Rows.disasmInstructionsSpec) :=
  OpenClaim.holds_of_wide 8 Tryz.f8 rfl rfl rfl rfl rfl rfl rfl ⟨rfl, rfl, rfl, rfl, rfl⟩ rfl rfl rfl rfl rfl (by kernel_rfl) Tryz.func8 (by kernel_rfl)
    (of_decide_eq_true (by kernel_rfl)) (by unfold Func.isWrapper; first | (rw [if_pos (by decide +kernel)]; kernel_rfl) | (rw [if_neg (by decide +kernel)]; exact ⟨rfl, rfl⟩))
    (fun os started H enc _ => lifted os started H enc)

theorem proved : Rows.DisasmInstructionsCardSaid :=
  Claim7.holds_tied_plain_at .later [] [.data, .data, .data, .data, .data, .data, .data] true Rows.disasmInstructionsCard.stood.harness true
    over (fun _ h => by cases h) (by kernel_rfl) (fun _ h => by cases h) disasmInstructions_row_tie rfl ⟨rfl, rfl⟩ (by kernel_rfl) rfl
    (fun f fn hf hfn => by
      obtain rfl : f = 8 := Option.some.inj ((show Tryz.prog.funcNamed Rows.disasmInstructionsRow.func = some 8 by kernel_rfl).symm.trans hf) |>.symm
      obtain rfl : fn = Tryz.f8 := (Option.some.inj (Tryz.func8.symm.trans hfn)).symm
      exact ⟨by kernel_rfl, fun j t ht => by
        rw [Tryz.params8] at ht
        have hm : t ∈ [28, 41] := by simpa using Array.mem_of_getElem? ht
        have hall : ([28, 41].all fun u => !Tryz.prog.wantsStandIn u) = true := by kernel_rfl
        exact (show Tryz.prog.wantsStandIn t = false by simpa using List.all_eq_true.1 hall t hm)⟩)
    (by kernel_rfl)
#print axioms proved
end Go.Proofs.YtnckpjcfgeajbaaGreatDoor.disasmInstructions
