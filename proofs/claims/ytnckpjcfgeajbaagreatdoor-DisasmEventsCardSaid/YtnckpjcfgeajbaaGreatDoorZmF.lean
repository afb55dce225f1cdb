/-
  The contract of disasm.Event.
-/
import Derived.Test.YtnckpjcfgeajbaaGreatDoorZmB
import Derived.Test.YtnckpjcfgeajbaaGreatDoorZmD
namespace Go.Proofs.YtnckpjcfgeajbaaGreatDoor
open Go Go.RowKit

def E9.val (x : E9) : Value := .agg #[.int .i64 x.ag, .int .i64 x.ix, .int .i64 x.kd, .int .i64 x.ob, .int .i64 x.mu, .int .i64 x.en, .int .i64 x.od, .int .i64 x.rd, .int .i64 x.wr]
structure E9.Wf (x : E9) : Prop where
  ag : In64 x.ag
  ix : In64 x.ix
  kd : In64 x.kd
  ob : In64 x.ob
  mu : In64 x.mu
  en : In64 x.en
  od : In64 x.od
  rd : In64 x.rd
  wr : In64 x.wr
theorem entryWd : Wd.ok (⟨#[101, 110, 116, 114, 121]⟩ : ByteArray).data.toList = .ok entryB := rfl
set_option maxRecDepth 100000 in
set_option maxHeartbeats 8000000 in
theorem iDetails {a : PgA} {p : Prg} (x : E9) (hi : x.Wf) (ho : 1 ≤ x.kd ∧ x.kd ≤ 17) (w : World) (hP : PgW w a p) (hL : LaidD w) : Calls Tryz.prog 65 #[a.val, x.val] w (GivesWL (p.evW x) w) := by
  obtain ⟨W, hWE⟩ : ∃ W, w.alloc (.cells a.fs 28) = W := ⟨_, rfl⟩
  have hbW : Below w.heap.size w W := by rw [← hWE]; exact belowAlloc w _
  have hB : PBox W w.heap.size a := by rw [← hWE]; exact Blk.new w _ _
  have hz : W.heap.size = w.heap.size + 1 := by rw [← hWE]; simp
  obtain ⟨ag, ix, kd, ob, mu, en, od, rd, wr⟩ := x
  obtain ⟨V, hVE⟩ : ∃ V, W.alloc (.cells #[.int .i64 ag, .int .i64 ix, .int .i64 kd, .int .i64 ob, .int .i64 mu, .int .i64 en, .int .i64 od, .int .i64 rd, .int .i64 wr] 52) = V := ⟨_, rfl⟩
  have hbV : Below W.heap.size W V := by rw [← hVE]; exact belowAlloc W _
  have hI : Blk V W.heap.size 52 #[.int .i64 ag, .int .i64 ix, .int .i64 kd, .int .i64 ob, .int .i64 mu, .int .i64 en, .int .i64 od, .int .i64 rd, .int .i64 wr] := by rw [← hVE]; exact Blk.new W _ _
  rw [hz] at hI
  have hbB := belowThen hbW hbV
  have HKB := Lib.hid (hB.below hbV)
  have HKI := Lib.hid hI
  have HL := Lib.hid (fun X (hX : Below V.heap.size V X) => (hL.below hbB).below hX)
  have HP := Lib.hid (fun X (hX : Below V.heap.size V X) => (hP.below hbB).below hX)
  have HV := Lib.hid (fun X (hX : Below V.heap.size V X) => iVn ob X (HP.out X hX))
  have HM := Lib.hid (fun X (hX : Below V.heap.size V X) => iMn ob X (HP.out X hX))
  have HD := Lib.hid (fun X (hX : Below V.heap.size V X) => iCn ob X (HP.out X hX))
  have HQ := Lib.hid (fun X (hX : Below V.heap.size V X) => iMn mu X (HP.out X hX))
  have HOR := Lib.hid (fun X (hX : Below V.heap.size V X) => iOrdC od X (HL.out X hX).ord)
  have HR := Lib.hid (fun X (hX : Below V.heap.size V X) => iNumberC rd hi.rd X (fun Y hY => (HL.out Y (belowThen hX hY)).tb))
  have HZ := Lib.hid (fun X (hX : Below V.heap.size V X) => iNumberC wr hi.wr X (fun Y hY => (HL.out Y (belowThen hX hY)).tb))
  have HEN := Lib.hid (fun X (hX : Below V.heap.size V X) => iNumberC en hi.en X (fun Y hY => (HL.out Y (belowThen hX hY)).tb))
  have HNO := Lib.hid (fun X (hX : Below V.heap.size V X) => iNumberC ob hi.ob X (fun Y hY => (HL.out Y (belowThen hX hY)).tb))
  have HFX := Lib.hid (fun X (_ : Below V.heap.size V X) => iFixed ⟨#[101, 110, 116, 114, 121]⟩ X)
  rw [entryWd] at HFX
  obtain ⟨A1, n1, c1, A2, n2, c2, A3, n3, c3, A4, n4, c4, A5, n5, c5⟩ := a
  simp only [PgA.val, PgA.fs, E9.val] at *
  obtain ⟨b0, hb0⟩ : ∃ b0, w.heap.size = b0 := ⟨_, rfl⟩
  obtain ⟨b1, hb1⟩ : ∃ b1, w.heap.size + 1 = b1 := ⟨_, rfl⟩
  have HBB := Lib.hid hbB
  have HB0 := Lib.hid hb0
  have HB1 := Lib.hid hb1
  have HK : Hid (∀ X, Below V.heap.size V X → Below V.heap.size V X ∧ X.cell? ⟨b0, 0, none⟩ = some (.slice A1 n1 c1) ∧ X.cell? ⟨b0, 1, none⟩ = some (.slice A2 n2 c2) ∧ X.cell? ⟨b0, 2, none⟩ = some (.slice A3 n3 c3) ∧ X.cell? ⟨b0, 3, none⟩ = some (.slice A4 n4 c4) ∧ X.cell? ⟨b0, 4, none⟩ = some (.slice A5 n5 c5) ∧ X.cell? ⟨b1, 0, none⟩ = some (.int .i64 ag) ∧ X.cell? ⟨b1, 1, none⟩ = some (.int .i64 ix) ∧ X.cell? ⟨b1, 2, none⟩ = some (.int .i64 kd) ∧ X.cell? ⟨b1, 3, none⟩ = some (.int .i64 ob) ∧ X.cell? ⟨b1, 4, none⟩ = some (.int .i64 mu) ∧ X.cell? ⟨b1, 5, none⟩ = some (.int .i64 en) ∧ X.cell? ⟨b1, 6, none⟩ = some (.int .i64 od) ∧ X.cell? ⟨b1, 7, none⟩ = some (.int .i64 rd) ∧ X.cell? ⟨b1, 8, none⟩ = some (.int .i64 wr)) := by
    refine Lib.hid fun X hX => ?_
    obtain ⟨g0, g1, g2, g3, g4⟩ := (HKB.out.below hX).facts
    have hJ := HKI.out.below' hX
    rw [hb1] at hJ
    rw [hb0] at g0 g1 g2 g3 g4
    exact ⟨hX, g0, g1, g2, g3, g4, hJ.cell 0, hJ.cell 1, hJ.cell 2, hJ.cell 3, hJ.cell 4, hJ.cell 5, hJ.cell 6, hJ.cell 7, hJ.cell 8⟩
  have HW := Lib.hid hWE
  have HVE := Lib.hid hVE
  clear hP hL hB hbW hbV hWE hVE hI hbB hb0 hb1 HKB HKI hi
  have hbd : Below V.heap.size V V.drew := (Below.refl _ V).drew
  go_enter Tryz.func65, Tryz.ntmps65
  go_wp2_with fail
  rw [HW.out, HVE.out]
  rw [HB1.out, HB0.out]
  obtain ⟨k, k0, k1, k2, k3, k4, r0, r1, r2, r3, r4, r5, r6, r7, r8⟩ := HK.out V (Below.refl _ _)
  clear k
  go_wp2_with fail
  go_region_held3 (fun w' => Below V.heap.size V w' ∧ w'.cell? ⟨b0, 0, none⟩ = some (.slice A1 n1 c1) ∧ w'.cell? ⟨b0, 1, none⟩ = some (.slice A2 n2 c2) ∧ w'.cell? ⟨b0, 2, none⟩ = some (.slice A3 n3 c3) ∧ w'.cell? ⟨b0, 3, none⟩ = some (.slice A4 n4 c4) ∧ w'.cell? ⟨b0, 4, none⟩ = some (.slice A5 n5 c5) ∧ w'.cell? ⟨b1, 0, none⟩ = some (.int .i64 ag) ∧ w'.cell? ⟨b1, 1, none⟩ = some (.int .i64 ix) ∧ w'.cell? ⟨b1, 2, none⟩ = some (.int .i64 kd) ∧ w'.cell? ⟨b1, 3, none⟩ = some (.int .i64 ob) ∧ w'.cell? ⟨b1, 4, none⟩ = some (.int .i64 mu) ∧ w'.cell? ⟨b1, 5, none⟩ = some (.int .i64 en) ∧ w'.cell? ⟨b1, 6, none⟩ = some (.int .i64 od) ∧ w'.cell? ⟨b1, 7, none⟩ = some (.int .i64 rd) ∧ w'.cell? ⟨b1, 8, none⟩ = some (.int .i64 wr))
    (first
      | with_reducible assumption
      | with_reducible exact HK.out _ hbd
      | exact HK.out _ (belowThen (‹Below V.heap.size V _ ∧ _›).1 bk))
    (first
      | (go_at_call 123; (with_reducible refine (HV.out _ (‹Below V.heap.size V _ ∧ _›).1).mono ?_); rintro e wV ⟨⟨fV, LV, rfl, hV⟩, bk⟩; have GV := Lib.hid hV; clear hV; (try have GM := Lib.hid (GM.out.below bk)); (try have GD := Lib.hid (GD.out.below bk)); (try have GO := Lib.hid (GO.out.below bk)); (try have GR := Lib.hid (GR.out.below bk)); (try have GZ := Lib.hid (GZ.out.below bk)); (try have GE := Lib.hid (GE.out.below bk)); skip)
      | (go_at_call 124; (with_reducible refine (HM.out _ (‹Below V.heap.size V _ ∧ _›).1).mono ?_); rintro e wM ⟨⟨fM, LM, rfl, hM⟩, bk⟩; have GM := Lib.hid hM; clear hM; (try have GV := Lib.hid (GV.out.below bk)); (try have GD := Lib.hid (GD.out.below bk)); (try have GO := Lib.hid (GO.out.below bk)); (try have GR := Lib.hid (GR.out.below bk)); (try have GZ := Lib.hid (GZ.out.below bk)); (try have GE := Lib.hid (GE.out.below bk)); skip)
      | (go_at_call 125; (with_reducible refine (HD.out _ (‹Below V.heap.size V _ ∧ _›).1).mono ?_); rintro e wD ⟨⟨fD, LD, rfl, hD⟩, bk⟩; have GD := Lib.hid hD; clear hD; (try have GV := Lib.hid (GV.out.below bk)); (try have GM := Lib.hid (GM.out.below bk)); (try have GO := Lib.hid (GO.out.below bk)); (try have GR := Lib.hid (GR.out.below bk)); (try have GZ := Lib.hid (GZ.out.below bk)); (try have GE := Lib.hid (GE.out.below bk)); skip))
  clear bk k0 k1 k2 k3 k4 r0 r1 r2 r3 r4 r5 r6 r7 r8 hbd
  obtain ⟨hSD, k0, k1, k2, k3, k4, r0, r1, r2, r3, r4, r5, r6, r7, r8⟩ := ‹Below V.heap.size V wD ∧ _›
  go_wp2_with fail
  refine (HOR.out _ hSD).mono ?_
  rintro e wO ⟨⟨fO, LO, rfl, hO⟩, bO⟩
  have GO := Lib.hid (hO.below (show Below wO.heap.size wO wO.drew from (Below.refl _ wO).drew))
  have BO := Lib.hid (belowThen bO (show Below wO.heap.size wO wO.drew from (Below.refl _ wO).drew))
  have hSO := belowThen hSD bO
  have hbd : Below V.heap.size V wO.drew := hSO.drew
  clear hO bO k0 k1 k2 k3 k4 r0 r1 r2 r3 r4 r5 r6 r7 r8
  have GV := Lib.hid (GV.out.below BO.out)
  have GM := Lib.hid (GM.out.below BO.out)
  have GD := Lib.hid (GD.out.below BO.out)
  obtain ⟨k, k0, k1, k2, k3, k4, r0, r1, r2, r3, r4, r5, r6, r7, r8⟩ := HK.out wO hSO
  clear k
  go_wp2_with fail
  go_region_held3 (fun w' => Below V.heap.size V w' ∧ w'.cell? ⟨b0, 0, none⟩ = some (.slice A1 n1 c1) ∧ w'.cell? ⟨b0, 1, none⟩ = some (.slice A2 n2 c2) ∧ w'.cell? ⟨b0, 2, none⟩ = some (.slice A3 n3 c3) ∧ w'.cell? ⟨b0, 3, none⟩ = some (.slice A4 n4 c4) ∧ w'.cell? ⟨b0, 4, none⟩ = some (.slice A5 n5 c5) ∧ w'.cell? ⟨b1, 0, none⟩ = some (.int .i64 ag) ∧ w'.cell? ⟨b1, 1, none⟩ = some (.int .i64 ix) ∧ w'.cell? ⟨b1, 2, none⟩ = some (.int .i64 kd) ∧ w'.cell? ⟨b1, 3, none⟩ = some (.int .i64 ob) ∧ w'.cell? ⟨b1, 4, none⟩ = some (.int .i64 mu) ∧ w'.cell? ⟨b1, 5, none⟩ = some (.int .i64 en) ∧ w'.cell? ⟨b1, 6, none⟩ = some (.int .i64 od) ∧ w'.cell? ⟨b1, 7, none⟩ = some (.int .i64 rd) ∧ w'.cell? ⟨b1, 8, none⟩ = some (.int .i64 wr))
    (first
      | with_reducible assumption
      | with_reducible exact HK.out _ hbd
      | exact HK.out _ (belowThen (‹Below V.heap.size V _ ∧ _›).1 bk))
    (first
      | (go_at_call 128; (with_reducible refine (HR.out _ (‹Below V.heap.size V _ ∧ _›).1).mono ?_); rintro e wR ⟨⟨fR, LR, rfl, hR⟩, bk⟩; have GR := Lib.hid hR; clear hR; (try have GV := Lib.hid (GV.out.below bk)); (try have GM := Lib.hid (GM.out.below bk)); (try have GD := Lib.hid (GD.out.below bk)); (try have GO := Lib.hid (GO.out.below bk)); (try have GZ := Lib.hid (GZ.out.below bk)); (try have GE := Lib.hid (GE.out.below bk)); skip)
      | (go_at_call 128; (with_reducible refine (HZ.out _ (‹Below V.heap.size V _ ∧ _›).1).mono ?_); rintro e wZ ⟨⟨fZ, LZ, rfl, hZ⟩, bk⟩; have GZ := Lib.hid hZ; clear hZ; (try have GV := Lib.hid (GV.out.below bk)); (try have GM := Lib.hid (GM.out.below bk)); (try have GD := Lib.hid (GD.out.below bk)); (try have GO := Lib.hid (GO.out.below bk)); (try have GR := Lib.hid (GR.out.below bk)); (try have GE := Lib.hid (GE.out.below bk)); skip)
      | (go_at_call 128; (with_reducible refine (HEN.out _ (‹Below V.heap.size V _ ∧ _›).1).mono ?_); rintro e wE ⟨⟨fE, LE, rfl, hE⟩, bk⟩; have GE := Lib.hid hE; clear hE; (try have GV := Lib.hid (GV.out.below bk)); (try have GM := Lib.hid (GM.out.below bk)); (try have GD := Lib.hid (GD.out.below bk)); (try have GO := Lib.hid (GO.out.below bk)); (try have GR := Lib.hid (GR.out.below bk)); (try have GZ := Lib.hid (GZ.out.below bk)); skip))
  clear bk k0 k1 k2 k3 k4 r0 r1 r2 r3 r4 r5 r6 r7 r8 hbd
  obtain ⟨hSE, k0, k1, k2, k3, k4, r0, r1, r2, r3, r4, r5, r6, r7, r8⟩ := ‹Below V.heap.size V wE ∧ _›
  have HSO := Lib.hid (belowThen HBB.out hSE)
  clear HV HM HD HOR HR HZ HEN hSD hSO
  obtain ⟨k, rfl⟩ : ∃ k : Nat, kd = k := ⟨kd.toNat, by omega⟩
  rcases (by omega : k = 1 ∨ k = 2 ∨ k = 3 ∨ k = 4 ∨ k = 5 ∨ k = 6 ∨ k = 7 ∨ k = 8 ∨ k = 9 ∨ k = 10 ∨ k = 11 ∨ k = 12 ∨ k = 13 ∨ k = 14 ∨ k = 15 ∨ k = 16 ∨ k = 17) with rfl | rfl | rfl | rfl | rfl | rfl | rfl | rfl | rfl | rfl | rfl | rfl | rfl | rfl | rfl | rfl | rfl
  · by_cases he : en = -1
    · have he1 : (en == -1) = true := by simp [he]
      have HEW : Hid (p.evW ⟨ag, ix, (1 : Nat), ob, mu, en, od, rd, wr⟩ = [obW p.vN ob, knW (ornOf od) 13, nuW rd]) := Lib.hid (if_pos he)
      clear he
      go_wp2
      go_ret
      rw [HEW.out]
      exact ⟨⟨_, _, _, rfl, wdL3 GV.out GO.out GR.out⟩, belowThen HSO.out (belowAlloc _ _)⟩
    · have he1 : (en == -1) = false := by simp [he]
      have HEW : Hid (p.evW ⟨ag, ix, (1 : Nat), ob, mu, en, od, rd, wr⟩ = [obW p.vN ob, knW (ornOf od) 13, nuW rd, .ok entryB, nuW en]) := Lib.hid (if_neg he)
      clear he
      go_wp2_with fail
      refine (HFX.out _ hSE).mono ?_
      rintro e wN ⟨⟨fN, LN, rfl, hN⟩, bN⟩
      have GN := Lib.hid hN
      have BN := Lib.hid bN
      clear hN bN
      have GV := Lib.hid (GV.out.below BN.out)
      have GO := Lib.hid (GO.out.below BN.out)
      have GR := Lib.hid (GR.out.below BN.out)
      have GE := Lib.hid (GE.out.below BN.out)
      go_wp2
      go_ret
      rw [HEW.out]
      exact ⟨⟨_, _, _, rfl, wdL5 GV.out GO.out GR.out GN.out GE.out⟩, belowThen (belowThen HSO.out BN.out) (belowAlloc _ _)⟩
  · go_wp2
    go_ret
    exact ⟨⟨_, _, _, rfl, wdL3 GV.out GO.out GZ.out⟩, belowThen HSO.out (belowAlloc _ _)⟩
  · go_wp2
    go_ret
    exact ⟨⟨_, _, _, rfl, wdL4 GV.out GO.out GZ.out GE.out⟩, belowThen HSO.out (belowAlloc _ _)⟩
  · go_wp2
    go_ret
    exact ⟨⟨_, _, _, rfl, wdL3 GV.out GZ.out GE.out⟩, belowThen HSO.out (belowAlloc _ _)⟩
  · go_wp2
    go_ret
    exact ⟨⟨_, _, _, rfl, wdL4 GV.out GO.out GR.out GZ.out⟩, belowThen HSO.out (belowAlloc _ _)⟩
  · go_wp2
    go_ret
    exact ⟨⟨_, _, _, rfl, wdL3 GV.out GO.out GR.out⟩, belowThen HSO.out (belowAlloc _ _)⟩
  · go_wp2
    go_ret
    exact ⟨⟨_, _, _, rfl, wdL0 _⟩, HSO.out⟩
  · by_cases he : en = -1
    · have he1 : (en == -1) = true := by simp [he]
      have HEW : Hid (p.evW ⟨ag, ix, (8 : Nat), ob, mu, en, od, rd, wr⟩ = [obW p.vN ob, knW (ornOf od) 13, nuW rd]) := Lib.hid (if_pos he)
      clear he
      go_wp2
      go_ret
      rw [HEW.out]
      exact ⟨⟨_, _, _, rfl, wdL3 GV.out GO.out GR.out⟩, belowThen HSO.out (belowAlloc _ _)⟩
    · have he1 : (en == -1) = false := by simp [he]
      have HEW : Hid (p.evW ⟨ag, ix, (8 : Nat), ob, mu, en, od, rd, wr⟩ = [obW p.vN ob, knW (ornOf od) 13, nuW rd, .ok entryB, nuW en]) := Lib.hid (if_neg he)
      clear he
      go_wp2_with fail
      refine (HFX.out _ hSE).mono ?_
      rintro e wN ⟨⟨fN, LN, rfl, hN⟩, bN⟩
      have GN := Lib.hid hN
      have BN := Lib.hid bN
      clear hN bN
      have GV := Lib.hid (GV.out.below BN.out)
      have GO := Lib.hid (GO.out.below BN.out)
      have GR := Lib.hid (GR.out.below BN.out)
      have GE := Lib.hid (GE.out.below BN.out)
      go_wp2
      go_ret
      rw [HEW.out]
      exact ⟨⟨_, _, _, rfl, wdL5 GV.out GO.out GR.out GN.out GE.out⟩, belowThen (belowThen HSO.out BN.out) (belowAlloc _ _)⟩
  · go_wp2
    go_ret
    exact ⟨⟨_, _, _, rfl, wdL1 GM.out⟩, belowThen HSO.out (belowAlloc _ _)⟩
  · go_wp2
    go_ret
    exact ⟨⟨_, _, _, rfl, wdL1 GM.out⟩, belowThen HSO.out (belowAlloc _ _)⟩
  · go_wp2
    go_ret
    exact ⟨⟨_, _, _, rfl, wdL2 GM.out GR.out⟩, belowThen HSO.out (belowAlloc _ _)⟩
  · go_wp2_with fail
    refine (HQ.out _ hSE).mono ?_
    rintro e wN ⟨⟨fN, LN, rfl, hN⟩, bN⟩
    have GN := Lib.hid hN
    have BN := Lib.hid bN
    clear hN bN
    have GD := Lib.hid (GD.out.below BN.out)
    go_wp2
    go_ret
    exact ⟨⟨_, _, _, rfl, wdL2 GD.out GN.out⟩, belowThen (belowThen HSO.out BN.out) (belowAlloc _ _)⟩
  · go_wp2
    go_ret
    exact ⟨⟨_, _, _, rfl, wdL1 GD.out⟩, belowThen HSO.out (belowAlloc _ _)⟩
  · go_wp2
    go_ret
    exact ⟨⟨_, _, _, rfl, wdL2 GD.out GR.out⟩, belowThen HSO.out (belowAlloc _ _)⟩
  · go_wp2
    go_ret
    exact ⟨⟨_, _, _, rfl, wdL2 GD.out GR.out⟩, belowThen HSO.out (belowAlloc _ _)⟩
  · go_wp2_with fail
    refine (HNO.out _ hSE).mono ?_
    rintro e wN ⟨⟨fN, LN, rfl, hN⟩, bN⟩
    have GN := Lib.hid hN
    have BN := Lib.hid bN
    clear hN bN
    go_wp2
    go_ret
    exact ⟨⟨_, _, _, rfl, wdL1 GN.out⟩, belowThen (belowThen HSO.out BN.out) (belowAlloc _ _)⟩
  · go_wp2_with fail
    refine (HNO.out _ hSE).mono ?_
    rintro e wN ⟨⟨fN, LN, rfl, hN⟩, bN⟩
    have GN := Lib.hid hN
    have BN := Lib.hid bN
    clear hN bN
    go_wp2
    go_ret
    exact ⟨⟨_, _, _, rfl, wdL1 GN.out⟩, belowThen (belowThen HSO.out BN.out) (belowAlloc _ _)⟩
end Go.Proofs.YtnckpjcfgeajbaaGreatDoor

namespace Go.Proofs.YtnckpjcfgeajbaaGreatDoor
open Go Go.RowKit

theorem itoaSz (n : Int) (h : In64 n) : (⟨(Lib.itoa n).toArray⟩ : ByteArray).size ≤ 21 := by
  have := itLen64 h
  simpa [ByteArray.size] using this
theorem stampNeg (a b : ByteArray) : a ++ ⟨#[98]⟩ ++ ⟨#[46]⟩ ++ b = bs (a.data.toList ++ [98] ++ 46 :: b.data.toList) := by
  have e : bs (a.data.toList ++ [98] ++ 46 :: b.data.toList) = bs (a.data.toList ++ [98] ++ [46] ++ b.data.toList) := by simp
  rw [e, bsApp, bsApp, bsApp]; rfl
theorem stampPos (a b : ByteArray) : a ++ ⟨#[]⟩ ++ ⟨#[46]⟩ ++ b = bs (a.data.toList ++ 46 :: b.data.toList) := by
  have e : bs (a.data.toList ++ 46 :: b.data.toList) = bs (a.data.toList ++ [] ++ [46] ++ b.data.toList) := by simp
  rw [e, bsApp, bsApp, bsApp]; rfl
set_option maxRecDepth 100000 in
set_option maxHeartbeats 4000000 in
theorem dStamp (x : E9) (hi : x.Wf) (hg : -2147483648 ≤ x.ag ∧ x.ag ≤ 2147483647) (w : World) (hL : LaidD w) : Calls Tryz.prog 67 #[x.val] w fun e w' => e = .returned (.string (bs x.stp)) ∧ Below w.heap.size w w' := by
  obtain ⟨ag, ix, kd, ob, mu, en, od, rd, wr⟩ := x
  simp only at hg
  obtain ⟨V, hVE⟩ : ∃ V, w.alloc (.cells #[.int .i64 ag, .int .i64 ix, .int .i64 kd, .int .i64 ob, .int .i64 mu, .int .i64 en, .int .i64 od, .int .i64 rd, .int .i64 wr] 52) = V := ⟨_, rfl⟩
  have hbV : Below w.heap.size w V := by rw [← hVE]; exact belowAlloc w _
  have hI : Blk V w.heap.size 52 #[.int .i64 ag, .int .i64 ix, .int .i64 kd, .int .i64 ob, .int .i64 mu, .int .i64 en, .int .i64 od, .int .i64 rd, .int .i64 wr] := by rw [← hVE]; exact Blk.new w _ _
  have HL := Lib.hid (fun X (hX : Below V.heap.size V X) => (hL.below hbV).below hX)
  have HX := Lib.hid (fun X (hX : Below V.heap.size V X) => vForm ix _ rfl hi.ix.1 hi.ix.2 X (HL.out X hX).tb)
  have hsx := itoaSz ix hi.ix
  obtain ⟨b0, hb0⟩ : ∃ b0, w.heap.size = b0 := ⟨_, rfl⟩
  have HB0 := Lib.hid hb0
  have HK : Hid (∀ X, Below V.heap.size V X → Below V.heap.size V X ∧ X.cell? ⟨b0, 0, none⟩ = some (.int .i64 ag) ∧ X.cell? ⟨b0, 1, none⟩ = some (.int .i64 ix) ∧ X.cell? ⟨b0, 2, none⟩ = some (.int .i64 kd) ∧ X.cell? ⟨b0, 3, none⟩ = some (.int .i64 ob) ∧ X.cell? ⟨b0, 4, none⟩ = some (.int .i64 mu) ∧ X.cell? ⟨b0, 5, none⟩ = some (.int .i64 en) ∧ X.cell? ⟨b0, 6, none⟩ = some (.int .i64 od) ∧ X.cell? ⟨b0, 7, none⟩ = some (.int .i64 rd) ∧ X.cell? ⟨b0, 8, none⟩ = some (.int .i64 wr)) := by
    refine Lib.hid fun X hX => ?_
    have hJ := hI.below' hX
    rw [hb0] at hJ
    exact ⟨hX, hJ.cell 0, hJ.cell 1, hJ.cell 2, hJ.cell 3, hJ.cell 4, hJ.cell 5, hJ.cell 6, hJ.cell 7, hJ.cell 8⟩
  have HVE := Lib.hid hVE
  have HBV := Lib.hid hbV
  have hbd : Below V.heap.size V V.drew := (Below.refl _ V).drew
  obtain ⟨k, r0, r1, r2, r3, r4, r5, r6, r7, r8⟩ := HK.out V (Below.refl _ _)
  clear k
  by_cases hn : ag < 0
  · have hag : In64 (-ag - 1) := ⟨by omega, by omega⟩
    have HA := Lib.hid (fun X (hX : Below V.heap.size V X) => vForm (-ag - 1) _ rfl hag.1 hag.2 X (HL.out X hX).tb)
    have hsa := itoaSz (-ag - 1) hag
    have HE := Lib.hid (show bs (E9.stp ⟨ag, ix, kd, ob, mu, en, od, rd, wr⟩) = (⟨(Lib.itoa (-ag - 1)).toArray⟩ : ByteArray) ++ ⟨#[98]⟩ ++ ⟨#[46]⟩ ++ ⟨(Lib.itoa ix).toArray⟩ by
      rw [stampNeg]; unfold E9.stp; rw [if_pos hn])
    rw [HE.out]
    generalize (⟨(Lib.itoa ix).toArray⟩ : ByteArray) = tx at *
    generalize (⟨(Lib.itoa (-ag - 1)).toArray⟩ : ByteArray) = ta at *
    have z1 : ¬ 9223372036854775807 < ta.size + 1 := by omega
    have z2 : ¬ 9223372036854775807 < ta.size + 1 + 1 := by omega
    have z3 : ¬ 9223372036854775807 < ta.size + 1 + 1 + tx.size := by omega
    clear hL hI hVE hbV hi hb0 hag HE
    simp only [E9.val]
    go_enter Tryz.func67, Tryz.ntmps67
    go_wp2_with fail
    rw [HVE.out]
    rw [HB0.out]
    go_wp2_with fail
    go_region_held3 (fun w' => Below V.heap.size V w' ∧ w'.cell? ⟨b0, 0, none⟩ = some (.int .i64 ag) ∧ w'.cell? ⟨b0, 1, none⟩ = some (.int .i64 ix) ∧ w'.cell? ⟨b0, 2, none⟩ = some (.int .i64 kd) ∧ w'.cell? ⟨b0, 3, none⟩ = some (.int .i64 ob) ∧ w'.cell? ⟨b0, 4, none⟩ = some (.int .i64 mu) ∧ w'.cell? ⟨b0, 5, none⟩ = some (.int .i64 en) ∧ w'.cell? ⟨b0, 6, none⟩ = some (.int .i64 od) ∧ w'.cell? ⟨b0, 7, none⟩ = some (.int .i64 rd) ∧ w'.cell? ⟨b0, 8, none⟩ = some (.int .i64 wr))
      (first
        | with_reducible assumption
        | with_reducible exact HK.out _ hbd
        | exact HK.out _ (belowThen (‹Below V.heap.size V _ ∧ _›).1 bk))
      (first
        | (go_at_call 55; ((with_reducible refine (HA.out _ (‹Below V.heap.size V _ ∧ _›).1).mono ?_); rintro e wA ⟨rfl, bk⟩))
        | (go_at_call 55; ((with_reducible refine (HX.out _ (‹Below V.heap.size V _ ∧ _›).1).mono ?_); rintro e wX ⟨rfl, bk⟩)))
    have hfin := (‹Below V.heap.size V wX ∧ _›).1
    clear r0 r1 r2 r3 r4 r5 r6 r7 r8 bk
    go_wp2
    go_ret
    exact ⟨rfl, belowThen HBV.out hfin⟩
  · have hag : In64 ag := ⟨by omega, by omega⟩
    have HA := Lib.hid (fun X (hX : Below V.heap.size V X) => vForm ag _ rfl hag.1 hag.2 X (HL.out X hX).tb)
    have hsa := itoaSz ag hag
    have HE := Lib.hid (show bs (E9.stp ⟨ag, ix, kd, ob, mu, en, od, rd, wr⟩) = (⟨(Lib.itoa ag).toArray⟩ : ByteArray) ++ ⟨#[]⟩ ++ ⟨#[46]⟩ ++ ⟨(Lib.itoa ix).toArray⟩ by
      rw [stampPos]; unfold E9.stp; rw [if_neg hn])
    rw [HE.out]
    generalize (⟨(Lib.itoa ix).toArray⟩ : ByteArray) = tx at *
    generalize (⟨(Lib.itoa ag).toArray⟩ : ByteArray) = ta at *
    have z1 : ¬ 9223372036854775807 < ta.size := by omega
    have z2 : ¬ 9223372036854775807 < ta.size + 1 := by omega
    have z3 : ¬ 9223372036854775807 < ta.size + 1 + tx.size := by omega
    clear hL hI hVE hbV hi hb0 hag HE
    simp only [E9.val]
    go_enter Tryz.func67, Tryz.ntmps67
    go_wp2_with fail
    rw [HVE.out]
    rw [HB0.out]
    go_wp2_with fail
    go_region_held3 (fun w' => Below V.heap.size V w' ∧ w'.cell? ⟨b0, 0, none⟩ = some (.int .i64 ag) ∧ w'.cell? ⟨b0, 1, none⟩ = some (.int .i64 ix) ∧ w'.cell? ⟨b0, 2, none⟩ = some (.int .i64 kd) ∧ w'.cell? ⟨b0, 3, none⟩ = some (.int .i64 ob) ∧ w'.cell? ⟨b0, 4, none⟩ = some (.int .i64 mu) ∧ w'.cell? ⟨b0, 5, none⟩ = some (.int .i64 en) ∧ w'.cell? ⟨b0, 6, none⟩ = some (.int .i64 od) ∧ w'.cell? ⟨b0, 7, none⟩ = some (.int .i64 rd) ∧ w'.cell? ⟨b0, 8, none⟩ = some (.int .i64 wr))
      (first
        | with_reducible assumption
        | with_reducible exact HK.out _ hbd
        | exact HK.out _ (belowThen (‹Below V.heap.size V _ ∧ _›).1 bk))
      (first
        | (go_at_call 55; ((with_reducible refine (HA.out _ (‹Below V.heap.size V _ ∧ _›).1).mono ?_); rintro e wA ⟨rfl, bk⟩))
        | (go_at_call 55; ((with_reducible refine (HX.out _ (‹Below V.heap.size V _ ∧ _›).1).mono ?_); rintro e wX ⟨rfl, bk⟩)))
    have hfin := (‹Below V.heap.size V wX ∧ _›).1
    clear r0 r1 r2 r3 r4 r5 r6 r7 r8 bk
    go_wp2
    go_ret
    exact ⟨rfl, belowThen HBV.out hfin⟩
end Go.Proofs.YtnckpjcfgeajbaaGreatDoor

namespace Go.Proofs.YtnckpjcfgeajbaaGreatDoor
open Go Go.RowKit

theorem evWLen {p : Prg} (hv : p.Vld) {e : E9} (hi : e.Wf) : ∀ x ∈ p.evW e, x.t.length ≤ 22 := by
  unfold Prg.evW
  repeat' split
  all_goals (try simp only [List.forall_mem_cons])
  all_goals (repeat' apply And.intro)
  all_goals first
    | exact nuLen hi.rd
    | exact nuLen hi.wr
    | exact nuLen hi.en
    | exact nuLen hi.ob
    | exact knLen (ornOfLen _) _
    | exact obLen22 hv.vNn _
    | exact obLen22 hv.nm _
    | exact obLen22 hv.nc _
    | exact (by decide : (Wd.ok entryB).t.length ≤ 22)
    | (intro x hx; simp at hx)
theorem evWNum (p : Prg) (e : E9) : (p.evW e).length ≤ 5 := by
  unfold Prg.evW
  repeat' split
  all_goals simp
theorem sntLen : ∀ {ws : List Wd} {acc : List UInt8}, (∀ x ∈ ws, x.t.length ≤ 22) → (snt acc ws).t.length ≤ acc.length + ws.length * 23
  | [], acc, _ => by simp [snt, Wd.ok]
  | x :: r, acc, h => by
    rw [snt]
    split
    · have h1 := h x (by simp)
      have h2 := sntLen (ws := r) (acc := acc ++ 32 :: x.t) fun y hy => h y (by simp [hy])
      rw [List.length_append, List.length_cons] at h2
      rw [List.length_cons, Nat.succ_mul]
      omega
    · exact Nat.zero_le _
theorem evnLen (k : Nat) : (evn k).data.toList.length ≤ 16 := by
  by_cases h : k < 18
  · have : ∀ k, k < 18 → (evn k).data.toList.length ≤ 16 := by decide
    exact this k h
  · unfold evn
    rw [List.getD_eq_getElem?_getD, List.getElem?_eq_none (by simp [evTab]; omega)]
    simp
theorem evTLen {p : Prg} (hv : p.Vld) {e : E9} (hi : e.Wf) : (p.evT e).t.length ≤ 200 := by
  have h1 := sntLen (acc := (evn e.kd.toNat).data.toList) (evWLen hv hi)
  have h2 := evnLen e.kd.toNat
  have h3 := Nat.mul_le_mul_right 23 (evWNum p e)
  unfold Prg.evT
  omega
theorem stpLen (e : E9) (hi : e.Wf) (hg : isVal e.ag = true) : e.stp.length ≤ 100 := by
  have h1 := itLen64 hi.ix
  have h2 := itLen64 hi.ag
  simp only [isVal, Bool.and_eq_true, decide_eq_true_eq] at hg
  have h3 := itLen64 (n := -e.ag - 1) ⟨by omega, by omega⟩
  unfold E9.stp
  split
  · simp only [List.length_append, List.length_cons, List.length_nil]; omega
  · simp only [List.length_append, List.length_cons]; omega
theorem evText (a b : List UInt8) : bs a ++ ⟨#[32]⟩ ++ bs b = bs (a ++ 32 :: b) := by
  have e : a ++ 32 :: b = a ++ [32] ++ b := by simp
  rw [e, bsApp, bsApp]; rfl
set_option maxRecDepth 100000 in
set_option maxHeartbeats 16000000 in
theorem dEvent {a : PgA} {p : Prg} (x : E9) (hi : x.Wf) (w : World) (hP : PgW w a p) (hW : p.Wf) (hL : LaidD w) (hE : EvT w) : Calls Tryz.prog 26 #[a.val, x.val] w fun e w' => e = gvW (p.evR x) ∧ Below w.heap.size w w' := by
  obtain ⟨W, hWE⟩ : ∃ W, w.alloc (.cells a.fs 28) = W := ⟨_, rfl⟩
  have hbW : Below w.heap.size w W := by rw [← hWE]; exact belowAlloc w _
  have hB : PBox W w.heap.size a := by rw [← hWE]; exact Blk.new w _ _
  have hz : W.heap.size = w.heap.size + 1 := by rw [← hWE]; simp
  have HCK := Lib.hid (fun X (hX : PgW X a p) (hT : InsT X) (hN : Nm X) => iCheckP X hX hW hT hN)
  obtain ⟨r, hr⟩ : ∃ r, p.evR x = r := ⟨_, rfl⟩
  rw [hr]
  have HR1 : Hid (p.chk.1 ≠ 0 → r = .no p.chk.1) := Lib.hid fun h => by rw [← hr, Prg.evR, if_pos h]
  have HR2 : Hid (p.chk.1 = 0 → (x.kd < 1 ∨ 17 < x.kd) → r = .no 8) := Lib.hid fun h h2 => by rw [← hr, Prg.evR, if_neg (by simpa using h), if_pos h2]
  have HR3 : Hid (p.chk.1 = 0 → ¬ (x.kd < 1 ∨ 17 < x.kd) → (p.evT x).e ≠ 0 → r = .no (p.evT x).e) := Lib.hid fun h h2 h3 => by rw [← hr, Prg.evR, if_neg (by simpa using h), if_neg h2, if_pos h3]
  have HR4 : Hid (p.chk.1 = 0 → ¬ (x.kd < 1 ∨ 17 < x.kd) → (p.evT x).e = 0 → x.bad = true → r = .no 2) := Lib.hid fun h h2 h3 h4 => by rw [← hr, Prg.evR, if_neg (by simpa using h), if_neg h2, if_neg (by simpa using h3), if_pos h4]
  have HR5 : Hid (p.chk.1 = 0 → ¬ (x.kd < 1 ∨ 17 < x.kd) → (p.evT x).e = 0 → x.bad = false → r = .ok (x.stp ++ 32 :: (p.evT x).t)) := Lib.hid fun h h2 h3 h4 => by rw [← hr, Prg.evR, if_neg (by simpa using h), if_neg h2, if_neg (by simpa using h3), if_neg (by rw [h4]; decide)]
  have HDT := Lib.hid (fun (ho : 1 ≤ x.kd ∧ x.kd ≤ 17) X (hX : PgW X a p) (hT : LaidD X) => iDetails x hi ho X hX hT)
  have HSN := Lib.hid (fun (hv : p.Vld) A n c X (hX : WdL X A n c (p.evW x)) => iSentence (evn x.kd.toNat) (Nat.le_trans (evnLen x.kd.toNat) (by decide)) (p.evW x) (fun y hy => Nat.le_trans (evWLen hv hi y hy) (by decide)) A n c X hX)
  rw [show snt (evn x.kd.toNat).data.toList (p.evW x) = p.evT x from rfl] at HSN
  have HTL : Hid (p.Vld → (bs (p.evT x).t).size ≤ 200) := Lib.hid fun hv => by
    have := evTLen hv hi
    simpa [bs, ByteArray.size] using this
  have HST := Lib.hid (fun (hg : isVal x.ag = true) X (hX : LaidD X) => dStamp x hi (by simpa [isVal] using hg) X hX)
  have HSL : Hid (isVal x.ag = true → (bs x.stp).size ≤ 100) := Lib.hid fun hg => by
    have := stpLen x hi hg
    simpa [bs, ByteArray.size] using this
  have HBD : Hid (x.bad = (!isVal x.ag || !isVal x.ix || decide (x.ix < 0))) := Lib.hid rfl
  generalize p.evT x = rt at HR3 HR4 HR5 HSN HTL
  generalize p.evW x = ws at HDT HSN
  generalize x.bad = bad at HR4 HR5 HBD
  have HTX := Lib.hid (evText x.stp rt.t)
  generalize x.stp = stp at HR5 HST HSL HTX
  obtain ⟨k1, k2, k3, hchk⟩ : ∃ k1 k2 k3, p.chk = (k1, k2, k3) := ⟨_, _, _, rfl⟩
  have HVL : Hid (k1 = 0 → p.Vld) := Lib.hid fun h => p.vld (by rw [hchk]; exact h)
  rw [hchk] at HR1 HR2 HR3 HR4 HR5
  simp only at HR1 HR2 HR3 HR4 HR5
  simp only [hchk, err3] at HCK
  obtain ⟨ag, ix, kd, ob, mu, en, od, rd, wr⟩ := x
  obtain ⟨V, hVE⟩ : ∃ V, W.alloc (.cells #[.int .i64 ag, .int .i64 ix, .int .i64 kd, .int .i64 ob, .int .i64 mu, .int .i64 en, .int .i64 od, .int .i64 rd, .int .i64 wr] 52) = V := ⟨_, rfl⟩
  have hbV : Below W.heap.size W V := by rw [← hVE]; exact belowAlloc W _
  have hI : Blk V W.heap.size 52 #[.int .i64 ag, .int .i64 ix, .int .i64 kd, .int .i64 ob, .int .i64 mu, .int .i64 en, .int .i64 od, .int .i64 rd, .int .i64 wr] := by rw [← hVE]; exact Blk.new W _ _
  rw [hz] at hI
  have hbB := belowThen hbW hbV
  have HKB := Lib.hid (hB.below hbV)
  have HKI := Lib.hid hI
  have HL := Lib.hid (fun X (hX : Below V.heap.size V X) => (hL.below hbB).below hX)
  have HP := Lib.hid (fun X (hX : Below V.heap.size V X) => (hP.below hbB).below hX)
  have HEV := Lib.hid (fun X (hX : Below V.heap.size V X) => (hE.below hbB).below hX)
  obtain ⟨A1, n1, c1, A2, n2, c2, A3, n3, c3, A4, n4, c4, A5, n5, c5⟩ := a
  simp only [PgA.val, PgA.fs, E9.val] at *
  obtain ⟨b0, hb0⟩ : ∃ b0, w.heap.size = b0 := ⟨_, rfl⟩
  obtain ⟨b1, hb1⟩ : ∃ b1, w.heap.size + 1 = b1 := ⟨_, rfl⟩
  have HBB := Lib.hid hbB
  have HB0 := Lib.hid hb0
  have HB1 := Lib.hid hb1
  have HK : Hid (∀ X, Below V.heap.size V X → Below V.heap.size V X ∧ X.cell? ⟨b0, 0, none⟩ = some (.slice A1 n1 c1) ∧ X.cell? ⟨b0, 1, none⟩ = some (.slice A2 n2 c2) ∧ X.cell? ⟨b0, 2, none⟩ = some (.slice A3 n3 c3) ∧ X.cell? ⟨b0, 3, none⟩ = some (.slice A4 n4 c4) ∧ X.cell? ⟨b0, 4, none⟩ = some (.slice A5 n5 c5) ∧ X.cell? ⟨b1, 0, none⟩ = some (.int .i64 ag) ∧ X.cell? ⟨b1, 1, none⟩ = some (.int .i64 ix) ∧ X.cell? ⟨b1, 2, none⟩ = some (.int .i64 kd) ∧ X.cell? ⟨b1, 3, none⟩ = some (.int .i64 ob) ∧ X.cell? ⟨b1, 4, none⟩ = some (.int .i64 mu) ∧ X.cell? ⟨b1, 5, none⟩ = some (.int .i64 en) ∧ X.cell? ⟨b1, 6, none⟩ = some (.int .i64 od) ∧ X.cell? ⟨b1, 7, none⟩ = some (.int .i64 rd) ∧ X.cell? ⟨b1, 8, none⟩ = some (.int .i64 wr)) := by
    refine Lib.hid fun X hX => ?_
    obtain ⟨g0, g1, g2, g3, g4⟩ := (HKB.out.below hX).facts
    have hJ := HKI.out.below' hX
    rw [hb1] at hJ
    rw [hb0] at g0 g1 g2 g3 g4
    exact ⟨hX, g0, g1, g2, g3, g4, hJ.cell 0, hJ.cell 1, hJ.cell 2, hJ.cell 3, hJ.cell 4, hJ.cell 5, hJ.cell 6, hJ.cell 7, hJ.cell 8⟩
  have HWE := Lib.hid hWE
  have HVE := Lib.hid hVE
  clear hP hL hB hbW hbV hWE hVE hI hbB hb0 hb1 HKB HKI hi hr hchk hW hE
  go_enter Tryz.func26, Tryz.ntmps26
  go_wp2_with fail
  rw [HWE.out, HVE.out]
  rw [HB1.out, HB0.out]
  obtain ⟨q, k0, k1', k2', k3', k4, r0, r1, r2, r3, r4, r5, r6, r7, r8⟩ := HK.out V (Below.refl _ _)
  clear q
  by_cases hk1 : k1 = 0
  · subst hk1
    have HV2 := Lib.hid (HVL.out (by first | trivial | rfl))
    clear HVL HR1
    go_wp2_with fail
    refine (HCK.out _ (HP.out _ (Below.refl _ _)) (HL.out _ (Below.refl _ _)).ins (HL.out _ (Below.refl _ _)).nm).mono ?_
    rintro e w1 ⟨rfl, b1'⟩
    clear k0 k1' k2' k3' k4 r0 r1 r2 r3 r4 r5 r6 r7 r8
    obtain ⟨hS, k0, k1', k2', k3', k4, r0, r1, r2, r3, r4, r5, r6, r7, r8⟩ := HK.out w1 b1'
    have HS1 := Lib.hid hS
    clear hS b1'
    by_cases hlo : kd < 1
    · have HZ := Lib.hid (HR2.out (by first | trivial | rfl) (.inl hlo))
      go_wp2
      go_ret2
      exact ⟨by rw [HZ.out]; rfl, belowThen HBB.out HS1.out⟩
    by_cases hhi : 17 < kd
    · have HZ := Lib.hid (HR2.out (by first | trivial | rfl) (.inr hhi))
      go_wp2
      go_ret2
      exact ⟨by rw [HZ.out]; rfl, belowThen HBB.out HS1.out⟩
    obtain ⟨k, rfl⟩ : ∃ k : Nat, kd = k := ⟨kd.toNat, by omega⟩
    have HNK : Hid (¬ ((k : Int) < 1 ∨ 17 < (k : Int))) := Lib.hid (by omega)
    have hkk0 : (0 : Int) ≤ k := by omega
    have hkk1 : (k : Int) < 18 := by omega
    have HDT2 := Lib.hid (HDT.out ⟨by omega, by omega⟩)
    have hkt : ((k : Nat) : Int).toNat = k := Int.toNat_natCast k
    rw [hkt] at HSN
    have HNE := Lib.hid (fun X (hX : Below V.heap.size V X) => HEV.out X hX k (by omega))
    generalize evn k = nme at HSN HNE
    have HKS : Hid (∀ X, Below V.heap.size V X → Below V.heap.size V X ∧ X.cell? ⟨b0, 0, none⟩ = some (.slice A1 n1 c1) ∧ X.cell? ⟨b0, 1, none⟩ = some (.slice A2 n2 c2) ∧ X.cell? ⟨b0, 2, none⟩ = some (.slice A3 n3 c3) ∧ X.cell? ⟨b0, 3, none⟩ = some (.slice A4 n4 c4) ∧ X.cell? ⟨b0, 4, none⟩ = some (.slice A5 n5 c5) ∧ X.cell? ⟨b1, 0, none⟩ = some (.int .i64 ag) ∧ X.cell? ⟨b1, 1, none⟩ = some (.int .i64 ix) ∧ X.cell? ⟨b1, 2, none⟩ = some (.int .i64 (k : Int)) ∧ X.cell? ⟨b1, 3, none⟩ = some (.int .i64 ob) ∧ X.cell? ⟨b1, 4, none⟩ = some (.int .i64 mu) ∧ X.cell? ⟨b1, 5, none⟩ = some (.int .i64 en) ∧ X.cell? ⟨b1, 6, none⟩ = some (.int .i64 od) ∧ X.cell? ⟨b1, 7, none⟩ = some (.int .i64 rd) ∧ X.cell? ⟨b1, 8, none⟩ = some (.int .i64 wr) ∧ X.cell? ⟨0, k, none⟩ = some (.string nme)) := by
      refine Lib.hid fun X hX => ?_
      obtain ⟨g, g0, g1, g2, g3, g4, s0, s1, s2, s3, s4, s5, s6, s7, s8⟩ := HK.out X hX
      exact ⟨hX, g0, g1, g2, g3, g4, s0, s1, s2, s3, s4, s5, s6, s7, s8, HNE.out X hX⟩
    have fn := HNE.out _ HS1.out
    have hbd : Below V.heap.size V w1.drew := HS1.out.drew
    go_wp2_with fail
    go_region_held3 (fun w' => Below V.heap.size V w' ∧ w'.cell? ⟨b0, 0, none⟩ = some (.slice A1 n1 c1) ∧ w'.cell? ⟨b0, 1, none⟩ = some (.slice A2 n2 c2) ∧ w'.cell? ⟨b0, 2, none⟩ = some (.slice A3 n3 c3) ∧ w'.cell? ⟨b0, 3, none⟩ = some (.slice A4 n4 c4) ∧ w'.cell? ⟨b0, 4, none⟩ = some (.slice A5 n5 c5) ∧ w'.cell? ⟨b1, 0, none⟩ = some (.int .i64 ag) ∧ w'.cell? ⟨b1, 1, none⟩ = some (.int .i64 ix) ∧ w'.cell? ⟨b1, 2, none⟩ = some (.int .i64 (k : Int)) ∧ w'.cell? ⟨b1, 3, none⟩ = some (.int .i64 ob) ∧ w'.cell? ⟨b1, 4, none⟩ = some (.int .i64 mu) ∧ w'.cell? ⟨b1, 5, none⟩ = some (.int .i64 en) ∧ w'.cell? ⟨b1, 6, none⟩ = some (.int .i64 od) ∧ w'.cell? ⟨b1, 7, none⟩ = some (.int .i64 rd) ∧ w'.cell? ⟨b1, 8, none⟩ = some (.int .i64 wr) ∧ w'.cell? ⟨0, k, none⟩ = some (.string nme))
      (first
        | with_reducible assumption
        | with_reducible exact HKS.out _ hbd
        | exact HKS.out _ (belowThen (‹Below V.heap.size V _ ∧ _›).1 bk))
      (first
        | (go_at_call 65; refine (HDT2.out _ (HP.out _ (‹Below V.heap.size V _ ∧ _›).1) (HL.out _ (‹Below V.heap.size V _ ∧ _›).1)).mono ?_; rintro e wO ⟨⟨A9, n9, c9, rfl, h9⟩, bk⟩; have G9 := Lib.hid h9; clear h9)
        | (go_at_call 56; refine (HSN.out HV2.out A9 n9 c9 _ G9.out).mono ?_; rintro e wS ⟨he, bk⟩; have he : e = .returned (.tuple #[.string (bs rt.t), .int .i64 rt.e]) := he; subst he))
    have hS2 := (‹Below V.heap.size V wS ∧ _›).1
    have HS2 := Lib.hid hS2
    clear k0 k1' k2' k3' k4 r0 r1 r2 r3 r4 r5 r6 r7 r8 fn hbd bk hS2
    clear hkt
    obtain ⟨q, k0, k1', k2', k3', k4, r0, r1, r2, r3, r4, r5, r6, r7, r8⟩ := HK.out wS HS2.out
    clear q
    by_cases he0 : rt.e = 0
    · have HE0 := Lib.hid he0
      rw [he0]
      clear he0
      have hsz := HTL.out HV2.out
      generalize hrt : bs rt.t = st at *
      have HRT := Lib.hid hrt
      clear hrt
      cases hva : isVal ag
      · have HZ := Lib.hid (HR4.out (by first | trivial | rfl) HNK.out HE0.out (by rw [HBD.out, hva]; rfl))
        have HIV := Lib.hid (fun X => dIsVal ag X)
        rw [hva] at HIV
        clear hva
        go_wp2_with fail
        refine (HIV.out _).mono ?_
        rintro e w' ⟨rfl, rfl⟩
        go_wp2
        go_ret2
        exact ⟨by rw [HZ.out]; rfl, belowThen HBB.out HS2.out⟩
      · have HIV := Lib.hid (fun X => dIsVal ag X)
        rw [hva] at HIV
        have HVA := Lib.hid hva
        cases hvi : isVal ix
        · have HZ := Lib.hid (HR4.out (by first | trivial | rfl) HNK.out HE0.out (by rw [HBD.out, hva, hvi]; rfl))
          have HIX := Lib.hid (fun X => dIsVal ix X)
          rw [hvi] at HIX
          clear hva hvi
          go_wp2_with fail
          refine (HIV.out _).mono ?_
          rintro e w' ⟨rfl, rfl⟩
          go_wp2_with fail
          refine (HIX.out _).mono ?_
          rintro e w' ⟨rfl, rfl⟩
          go_wp2
          go_ret2
          exact ⟨by rw [HZ.out]; rfl, belowThen HBB.out HS2.out⟩
        · have HIX := Lib.hid (fun X => dIsVal ix X)
          rw [hvi] at HIX
          by_cases hneg : ix < 0
          · have HZ := Lib.hid (HR4.out (by first | trivial | rfl) HNK.out HE0.out (by rw [HBD.out, hva, hvi]; simp [hneg]))
            clear hva hvi
            go_wp2_with fail
            refine (HIV.out _).mono ?_
            rintro e w' ⟨rfl, rfl⟩
            go_wp2_with fail
            refine (HIX.out _).mono ?_
            rintro e w' ⟨rfl, rfl⟩
            go_wp2
            go_ret2
            exact ⟨by rw [HZ.out]; rfl, belowThen HBB.out HS2.out⟩
          · have HZ := Lib.hid (HR5.out (by first | trivial | rfl) HNK.out HE0.out (by rw [HBD.out, hva, hvi]; simp [hneg]))
            have hsp := HSL.out HVA.out
            clear hva hvi
            go_wp2_with fail
            refine (HIV.out _).mono ?_
            rintro e w' ⟨rfl, rfl⟩
            go_wp2_with fail
            refine (HIX.out _).mono ?_
            rintro e w' ⟨rfl, rfl⟩
            go_wp2_with fail
            refine (HST.out HVA.out _ (HL.out _ HS2.out)).mono ?_
            rintro e w3 ⟨rfl, b3⟩
            have HB3 := Lib.hid (belowThen HS2.out b3)
            clear b3
            generalize hss : bs stp = ss at *
            have HSS := Lib.hid hss
            clear hss
            go_wp2
            go_ret2
            refine ⟨?_, belowThen HBB.out HB3.out⟩
            rw [HZ.out, gvW]
            show _ = Ending.returned (.tuple #[.string (bs (stp ++ 32 :: rt.t)), .int .i64 0])
            have hx := HTX.out
            rw [← hx]
            try rfl
    · have he0' : (rt.e != 0) = true := by simpa using he0
      have HZ := Lib.hid (HR3.out (by first | trivial | rfl) HNK.out he0)
      clear he0
      generalize rt.e = ex at he0' HZ ⊢
      generalize bs rt.t = st
      go_wp2
      go_ret2
      exact ⟨by rw [HZ.out]; rfl, belowThen HBB.out HS2.out⟩
  · have hk1' : (k1 != 0) = true := by simpa using hk1
    have HZ := Lib.hid (HR1.out hk1)
    clear hk1
    go_wp2_with fail
    refine (HCK.out _ (HP.out _ (Below.refl _ _)) (HL.out _ (Below.refl _ _)).ins (HL.out _ (Below.refl _ _)).nm).mono ?_
    rintro e w1 ⟨rfl, b1'⟩
    go_wp2
    go_ret2
    exact ⟨by rw [HZ.out]; rfl, belowThen HBB.out b1'⟩
end Go.Proofs.YtnckpjcfgeajbaaGreatDoor
