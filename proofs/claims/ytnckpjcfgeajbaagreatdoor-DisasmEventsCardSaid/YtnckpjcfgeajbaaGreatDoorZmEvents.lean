/-
  The law DisasmEvents holds: for every program and every event it returns true and leaves its arguments as they were, where the listed variables are laid as the program's text lays them.
-/
import Derived.Test.YtnckpjcfgeajbaaGreatDoorZeP
import Derived.Test.YtnckpjcfgeajbaaGreatDoorZeN
import Derived.Test.YtnckpjcfgeajbaaGreatDoorZmG
import Derived.Test.YtnckpjcfgeajbaaGreatDoorCards
import Derived.SevenTiedAt
import Derived.ShutString
import Derived.ChangeMaps5
import Derived.Carry
namespace Go.Proofs.YtnckpjcfgeajbaaGreatDoor
open Go Go.ChangeShapes Go.WideShapes Go.ChangeAt Go.WideMaps Go.WideElems Go.RowKit

set_option maxRecDepth 100000 in
set_option maxHeartbeats 8000000 in
theorem rEvOut {a : PgA} {p : Prg} (x : E9) (hk : x.kd < 1 ∨ 17 < x.kd) (w : World) (hP : PgW w a p) (hW : p.Wf) (hsm : p.small = true) : Calls Tryz.prog 27 #[a.val, x.val] w fun e w' => e = gvW (p.evR x) ∧ Below w.heap.size w w' := by
  obtain ⟨W, hWE⟩ : ∃ W, w.alloc (.cells a.fs 28) = W := ⟨_, rfl⟩
  have hbW : Below w.heap.size w W := by rw [← hWE]; exact belowAlloc w _
  have hB : PBox W w.heap.size a := by rw [← hWE]; exact Blk.new w _ _
  have hz : W.heap.size = w.heap.size + 1 := by rw [← hWE]; simp
  have HCK := Lib.hid (fun X (hX : PgW X a p) => rCheckP X hX hW hsm)
  obtain ⟨r, hr⟩ : ∃ r, gvW (p.evR x) = r := ⟨_, rfl⟩
  rw [hr]
  have HR1 : Hid (p.chk.1 ≠ 0 → r = .returned (.tuple #[.string ⟨#[]⟩, .int .i64 p.chk.1])) := Lib.hid fun h => by rw [← hr, Prg.evR, if_pos h]; rfl
  have HR3 : Hid (p.chk.1 = 0 → r = .returned (.tuple #[.string ⟨#[]⟩, .int .i64 8])) := Lib.hid fun h => by rw [← hr, Prg.evR, if_neg (by simpa using h), if_pos hk]; rfl
  have HWD := Lib.hid (fun X => rWords0 x.kd hk X)
  obtain ⟨k1, k2, k3, hchk⟩ : ∃ k1 k2 k3, p.chk = (k1, k2, k3) := ⟨_, _, _, rfl⟩
  rw [hchk] at HR1 HR3
  simp only at HR1 HR3
  simp only [hchk, err3] at HCK
  obtain ⟨ag, ix, kd, ob, mu, en, od, rd, wo⟩ := x
  clear hr hchk hW hsm hk
  obtain ⟨V, hVE⟩ : ∃ V, W.alloc (.cells #[.int .i64 ag, .int .i64 ix, .int .i64 kd, .int .i64 ob, .int .i64 mu, .int .i64 en, .int .i64 od, .int .i64 rd, .int .i64 wo] 52) = V := ⟨_, rfl⟩
  have hbV : Below W.heap.size W V := by rw [← hVE]; exact belowAlloc W _
  have hI : Blk V W.heap.size 52 #[.int .i64 ag, .int .i64 ix, .int .i64 kd, .int .i64 ob, .int .i64 mu, .int .i64 en, .int .i64 od, .int .i64 rd, .int .i64 wo] := by rw [← hVE]; exact Blk.new W _ _
  rw [hz] at hI
  have hbB := belowThen hbW hbV
  have HKB := Lib.hid (hB.below hbV)
  have HKI := Lib.hid hI
  have HP := Lib.hid (fun X (hX : Below V.heap.size V X) => (hP.below hbB).below hX)
  obtain ⟨A1, n1, c1, A2, n2, c2, A3, n3, c3, A4, n4, c4, A5, n5, c5⟩ := a
  simp only [PgA.val, PgA.fs, E9.val] at *
  obtain ⟨b0, hb0⟩ : ∃ b0, w.heap.size = b0 := ⟨_, rfl⟩
  obtain ⟨b1, hb1⟩ : ∃ b1, w.heap.size + 1 = b1 := ⟨_, rfl⟩
  have HBB := Lib.hid hbB
  have HB0 := Lib.hid hb0
  have HB1 := Lib.hid hb1
  have HK : Hid (∀ X, Below V.heap.size V X → Below V.heap.size V X ∧ X.cell? ⟨b0, 0, none⟩ = some (.slice A1 n1 c1) ∧ X.cell? ⟨b0, 1, none⟩ = some (.slice A2 n2 c2) ∧ X.cell? ⟨b0, 2, none⟩ = some (.slice A3 n3 c3) ∧ X.cell? ⟨b0, 3, none⟩ = some (.slice A4 n4 c4) ∧ X.cell? ⟨b0, 4, none⟩ = some (.slice A5 n5 c5) ∧ X.cell? ⟨b1, 0, none⟩ = some (.int .i64 ag) ∧ X.cell? ⟨b1, 1, none⟩ = some (.int .i64 ix) ∧ X.cell? ⟨b1, 2, none⟩ = some (.int .i64 kd) ∧ X.cell? ⟨b1, 3, none⟩ = some (.int .i64 ob) ∧ X.cell? ⟨b1, 4, none⟩ = some (.int .i64 mu) ∧ X.cell? ⟨b1, 5, none⟩ = some (.int .i64 en) ∧ X.cell? ⟨b1, 6, none⟩ = some (.int .i64 od) ∧ X.cell? ⟨b1, 7, none⟩ = some (.int .i64 rd) ∧ X.cell? ⟨b1, 8, none⟩ = some (.int .i64 wo)) := by
    refine Lib.hid fun X hX => ?_
    obtain ⟨g0, g1, g2, g3, g4⟩ := (HKB.out.below hX).facts
    have hJ := HKI.out.below' hX
    rw [hb1] at hJ
    rw [hb0] at g0 g1 g2 g3 g4
    exact ⟨hX, g0, g1, g2, g3, g4, hJ.cell 0, hJ.cell 1, hJ.cell 2, hJ.cell 3, hJ.cell 4, hJ.cell 5, hJ.cell 6, hJ.cell 7, hJ.cell 8⟩
  have HWE := Lib.hid hWE
  have HVE := Lib.hid hVE
  clear hP hB hbW hbV hWE hVE hI hbB hb0 hb1 HKB HKI
  go_enter Tryz.func27, Tryz.ntmps27
  go_wp2_with fail
  rw [HWE.out, HVE.out]
  rw [HB1.out, HB0.out]
  obtain ⟨q, k0, k1', k2', k3', k4, r0, r1, r2, r3, r4, r5, r6, r7, r8⟩ := HK.out V (Below.refl _ _)
  clear q
  by_cases hk1 : k1 = 0
  · subst hk1
    have HZ := Lib.hid (HR3.out (by first | trivial | rfl))
    go_wp2_with fail
    refine (HCK.out _ (HP.out _ (Below.refl _ _))).mono ?_
    rintro e w1 ⟨rfl, q1⟩
    have HS1 := Lib.hid q1
    clear q1 k0 k1' k2' k3' k4 r0 r1 r2 r3 r4 r5 r6 r7 r8
    obtain ⟨q, k0, k1', k2', k3', k4, r0, r1, r2, r3, r4, r5, r6, r7, r8⟩ := HK.out w1 HS1.out
    clear q
    go_wp2_with fail
    refine (HWD.out _).mono ?_
    rintro e wA ⟨rfl, rfl⟩
    go_wp2
    go_ret2
    exact ⟨HZ.out.symm, belowThen HBB.out HS1.out⟩
  · have hk1' : (k1 != 0) = true := by simpa using hk1
    have HZ := Lib.hid (HR1.out hk1)
    clear hk1
    go_wp2_with fail
    refine (HCK.out _ (HP.out _ (Below.refl _ _))).mono ?_
    rintro e w1 ⟨rfl, q1⟩
    go_wp2
    go_ret2
    exact ⟨HZ.out.symm, belowThen HBB.out q1⟩
theorem rEvent {a : PgA} {p : Prg} (x : E9) (hi : x.Wf) (w : World) (hP : PgW w a p) (hW : p.Wf) (hsm : p.small = true) : Calls Tryz.prog 27 #[a.val, x.val] w fun e w' => e = gvW (p.evR x) ∧ Below w.heap.size w w' := by
  by_cases h : x.kd < 1 ∨ 17 < x.kd
  · exact rEvOut x h w hP hW hsm
  · by_cases hag : x.ag < 0
    · exact rEvInN x hi x.kd.toNat (by omega) (by omega) hag w hP hW hsm
    · exact rEvInP x hi x.kd.toNat (by omega) (by omega) hag w hP hW hsm
set_option maxRecDepth 100000 in
set_option maxHeartbeats 8000000 in
theorem lawEvents {a : PgA} {p : Prg} (x : E9) (hi : x.Wf) (w : World) (hP : PgW w a p) (hW : p.Wf) (hL : LaidE w) : Calls Tryz.prog 9 #[a.val, x.val] w (LawOkD w) := by
  obtain ⟨W, hWE⟩ : ∃ W, w.alloc (.cells a.fs 28) = W := ⟨_, rfl⟩
  have hbW : Below w.heap.size w W := by rw [← hWE]; exact belowAlloc w _
  have hB : PBox W w.heap.size a := by rw [← hWE]; exact Blk.new w _ _
  have hz : W.heap.size = w.heap.size + 1 := by rw [← hWE]; simp
  have H1 := Lib.hid (fun X (hX : PgW X a p) => rSmall X hX)
  have HDI := Lib.hid (fun X (hX : PgW X a p) (hT : LaidE X) => dEvent x hi X hX hW hT.d hT.ev)
  have HRI := Lib.hid (fun (hs : p.small = true) X (hX : PgW X a p) => rEvent x hi X hX hW hs)
  generalize p.evR x = y at HDI HRI
  obtain ⟨ag, ix, kd, ob, mu, en, od, rd, wo⟩ := x
  obtain ⟨V, hVE⟩ : ∃ V, W.alloc (.cells #[.int .i64 ag, .int .i64 ix, .int .i64 kd, .int .i64 ob, .int .i64 mu, .int .i64 en, .int .i64 od, .int .i64 rd, .int .i64 wo] 52) = V := ⟨_, rfl⟩
  have hbV : Below W.heap.size W V := by rw [← hVE]; exact belowAlloc W _
  have hI : Blk V W.heap.size 52 #[.int .i64 ag, .int .i64 ix, .int .i64 kd, .int .i64 ob, .int .i64 mu, .int .i64 en, .int .i64 od, .int .i64 rd, .int .i64 wo] := by rw [← hVE]; exact Blk.new W _ _
  rw [hz] at hI
  have hbB := belowThen hbW hbV
  have HKB := Lib.hid (hB.below hbV)
  have HKI := Lib.hid hI
  have HP := Lib.hid (fun X (hX : Below V.heap.size V X) => (hP.below hbB).below hX)
  have HL := Lib.hid (fun X (hX : Below V.heap.size V X) => (hL.below hbB).below hX)
  obtain ⟨A1, n1, c1, A2, n2, c2, A3, n3, c3, A4, n4, c4, A5, n5, c5⟩ := a
  simp only [PgA.val, PgA.fs, E9.val] at *
  obtain ⟨b0, hb0⟩ : ∃ b0, w.heap.size = b0 := ⟨_, rfl⟩
  obtain ⟨b1, hb1⟩ : ∃ b1, w.heap.size + 1 = b1 := ⟨_, rfl⟩
  have HBB := Lib.hid hbB
  have HB0 := Lib.hid hb0
  have HB1 := Lib.hid hb1
  have HK : Hid (∀ X, Below V.heap.size V X → Below V.heap.size V X ∧ X.cell? ⟨b0, 0, none⟩ = some (.slice A1 n1 c1) ∧ X.cell? ⟨b0, 1, none⟩ = some (.slice A2 n2 c2) ∧ X.cell? ⟨b0, 2, none⟩ = some (.slice A3 n3 c3) ∧ X.cell? ⟨b0, 3, none⟩ = some (.slice A4 n4 c4) ∧ X.cell? ⟨b0, 4, none⟩ = some (.slice A5 n5 c5) ∧ X.cell? ⟨b1, 0, none⟩ = some (.int .i64 ag) ∧ X.cell? ⟨b1, 1, none⟩ = some (.int .i64 ix) ∧ X.cell? ⟨b1, 2, none⟩ = some (.int .i64 kd) ∧ X.cell? ⟨b1, 3, none⟩ = some (.int .i64 ob) ∧ X.cell? ⟨b1, 4, none⟩ = some (.int .i64 mu) ∧ X.cell? ⟨b1, 5, none⟩ = some (.int .i64 en) ∧ X.cell? ⟨b1, 6, none⟩ = some (.int .i64 od) ∧ X.cell? ⟨b1, 7, none⟩ = some (.int .i64 rd) ∧ X.cell? ⟨b1, 8, none⟩ = some (.int .i64 wo)) := by
    refine Lib.hid fun X hX => ?_
    obtain ⟨g0, g1, g2, g3, g4⟩ := (HKB.out.below hX).facts
    have hJ := HKI.out.below' hX
    rw [hb1] at hJ
    rw [hb0] at g0 g1 g2 g3 g4
    exact ⟨hX, g0, g1, g2, g3, g4, hJ.cell 0, hJ.cell 1, hJ.cell 2, hJ.cell 3, hJ.cell 4, hJ.cell 5, hJ.cell 6, hJ.cell 7, hJ.cell 8⟩
  have HWE := Lib.hid hWE
  have HVE := Lib.hid hVE
  clear hL hi hW hP hB hbW hbV hWE hVE hI hbB hb0 hb1 HKB HKI
  cases hsm : p.small
  · rw [hsm] at H1
    clear hsm
    go_enter Tryz.func9, Tryz.ntmps9
    go_wp2_with fail
    rw [HWE.out, HVE.out]
    rw [HB1.out, HB0.out]
    obtain ⟨q, k0, k1', k2', k3', k4, r0, r1, r2, r3, r4, r5, r6, r7, r8⟩ := HK.out V (Below.refl _ _)
    clear q
    go_wp2_with fail
    refine (H1.out _ (HP.out _ (Below.refl _ _))).mono ?_
    rintro e w1 ⟨rfl, q1⟩
    go_wp2_with fail
    refine (dLives _ (HL.out _ q1)).mono ?_
    rintro e w2 ⟨rfl, q2⟩
    go_wp2
    go_ret
    exact ⟨rfl, belowThen HBB.out (belowThen q1 q2)⟩
  rw [hsm] at H1
  have HRI := Lib.hid (HRI.out hsm)
  clear hsm
  go_enter Tryz.func9, Tryz.ntmps9
  go_wp2_with fail
  rw [HWE.out, HVE.out]
  rw [HB1.out, HB0.out]
  obtain ⟨q, k0, k1', k2', k3', k4, r0, r1, r2, r3, r4, r5, r6, r7, r8⟩ := HK.out V (Below.refl _ _)
  clear q
  go_wp2_with fail
  refine (H1.out _ (HP.out _ (Below.refl _ _))).mono ?_
  rintro e w1 ⟨rfl, q1⟩
  have HS1 := Lib.hid q1
  clear q1 k0 k1' k2' k3' k4 r0 r1 r2 r3 r4 r5 r6 r7 r8
  obtain ⟨q, k0, k1', k2', k3', k4, r0, r1, r2, r3, r4, r5, r6, r7, r8⟩ := HK.out w1 HS1.out
  clear q
  go_wp2_with fail
  refine (HDI.out _ (HP.out _ HS1.out) (HL.out _ HS1.out)).mono ?_
  rintro e w2 ⟨he, q2⟩
  have he : e = .returned (.tuple #[.string (bs y.t), .int .i64 y.e]) := he
  subst he
  have HS2 := Lib.hid (belowThen HS1.out q2)
  clear q2 k0 k1' k2' k3' k4 r0 r1 r2 r3 r4 r5 r6 r7 r8
  obtain ⟨q, k0, k1', k2', k3', k4, r0, r1, r2, r3, r4, r5, r6, r7, r8⟩ := HK.out w2 HS2.out
  clear q
  go_wp2_with fail
  refine (HRI.out _ (HP.out _ HS2.out)).mono ?_
  rintro e w3 ⟨he, q3⟩
  have he : e = .returned (.tuple #[.string (bs y.t), .int .i64 y.e]) := he
  subst he
  have HS3 := Lib.hid (belowThen HS2.out q3)
  clear q3 k0 k1' k2' k3' k4 r0 r1 r2 r3 r4 r5 r6 r7 r8
  generalize bs y.t = st
  generalize y.e = ex
  go_wp2_with fail
  refine (dLives _ (HL.out _ HS3.out)).mono ?_
  rintro e w4 ⟨rfl, q4⟩
  go_wp2
  go_ret
  exact ⟨by simp, belowThen HBB.out (belowThen HS3.out q4)⟩

/-! An event as an argument. -/
theorem array9 {α : Type} {cs : Array α} (h : cs.size = 9) : ∃ c0 c1 c2 c3 c4 c5 c6 c7 c8, cs = #[c0, c1, c2, c3, c4, c5, c6, c7, c8] := by
  obtain ⟨l⟩ := cs
  match l, h with
  | [c0, c1, c2, c3, c4, c5, c6, c7, c8], _ => exact ⟨c0, c1, c2, c3, c4, c5, c6, c7, c8, rfl⟩
set_option maxRecDepth 100000 in
theorem evFs : ∃ fs, Tryz.prog.underlying 52 = some (.struct fs) ∧ Deep.oneCellFields Tryz.prog fs = true ∧ fs.size = 9 ∧ (fs.toList.all fun f => [3, 50, 39].contains f.type) = true :=
  ⟨_, Tryz.underlying52, by kernel_rfl, by kernel_rfl, by kernel_rfl⟩
theorem underE {u : TypeId} (h : ([3, 50, 39] : List TypeId).contains u = true) : Tryz.prog.underlying u = some (.int .i64) := by
  simp only [List.contains_cons, List.contains_nil, Bool.or_false, Bool.or_eq_true, beq_iff_eq] at h
  rcases h with rfl | rfl | rfl
  · exact Tryz.underlying3
  · exact Tryz.underlying50
  · exact Tryz.underlying39
theorem cellsEvt : Tryz.prog.cellsOf 52 = 9 := by kernel_rfl
set_option maxRecDepth 100000 in
theorem openE9 {H : Type} {enc : TypeId × Value → H} {W : World} {base b0 : Nat} {v : Value} {d : DataW H} {p : List MemPlace} (hv : Value.okWide Tryz.prog W .any base 52 v) (h : DataW.Trod enc Tryz.prog W b0 (fun _ => true) true 52 v d p) :
    ∃ i : E9, v = i.val ∧ i.Wf := by
  obtain ⟨fs, hfs, h1, h2, h3⟩ := evFs
  obtain ⟨cs, rfl, hsz⟩ := okWide_struct hfs hv
  obtain ⟨c0, c1, c2, c3, c4, c5, c6, c7, c8, rfl⟩ := array9 (hsz.trans cellsEvt)
  obtain ⟨fuel, hf⟩ := h
  obtain ⟨xs, n, _, _, _, hxl, hx⟩ := DataW.trod_struct hfs hf
  have key : ∀ k, k < 9 → ∀ c, [c0, c1, c2, c3, c4, c5, c6, c7, c8][k]? = some c → ∃ z, c = .int .i64 z ∧ In64 z := by
    intro k hk c hc
    have hk' : k < fs.size := by omega
    have hkf : fs[k]? = some fs[k] := Array.getElem?_eq_getElem hk'
    obtain ⟨o, ce⟩ := Deep.hone_of h1 k fs[k] hkf
    have hu : Tryz.prog.underlying fs[k].type = some (.int .i64) := underE (List.all_eq_true.1 h3 fs[k] (by simp))
    have := hx k fs[k] hkf
    rw [o, ce, List.getElem?_eq_getElem (by omega)] at this
    refine intOfTrod (enc := enc) (w := W) (base := b0) (sp := fun _ => true) (held := true) (fuel := n) hu (y := xs[k]) ?_
    rw [← this]
    congr 1
    simp only [Value.cells]
    rcases k with _ | _ | _ | _ | _ | _ | _ | _ | _ | k
    all_goals first | omega | (simp at hc ⊢; exact hc.symm)
  obtain ⟨z0, rfl, g0⟩ := key 0 (by omega) _ rfl
  obtain ⟨z1, rfl, g1⟩ := key 1 (by omega) _ rfl
  obtain ⟨z2, rfl, g2⟩ := key 2 (by omega) _ rfl
  obtain ⟨z3, rfl, g3⟩ := key 3 (by omega) _ rfl
  obtain ⟨z4, rfl, g4⟩ := key 4 (by omega) _ rfl
  obtain ⟨z5, rfl, g5⟩ := key 5 (by omega) _ rfl
  obtain ⟨z6, rfl, g6⟩ := key 6 (by omega) _ rfl
  obtain ⟨z7, rfl, g7⟩ := key 7 (by omega) _ rfl
  obtain ⟨z8, rfl, g8⟩ := key 8 (by omega) _ rfl
  exact ⟨⟨z0, z1, z2, z3, z4, z5, z6, z7, z8⟩, rfl, ⟨g0, g1, g2, g3, g4, g5, g6, g7, g8⟩⟩
end Go.Proofs.YtnckpjcfgeajbaaGreatDoor

namespace Go.Proofs.YtnckpjcfgeajbaaGreatDoor.disasmEvents
open Go Go.ChangeShapes Go.WideShapes Go.ChangeAt Go.WideMaps Go.WideElems Go.RowKit Go.ChangeMaps

set_option maxRecDepth 100000 in
theorem lifted (os : Os) (started : os.Started) (H : Type) (enc : TypeId × Value → H) :
    ReturnsInHanded {} Tryz.checked os 9 .any (fun w args => (Rows.disasmEventsSpec.pre enc Tryz.prog Tryz.f9 [] false w args ∧ laidMetH Tryz.prog laidE w) ∧ sizedMet enc Tryz.prog Tryz.f9 (OpenSpec.ofChange Rows.disasmEventsSpec) false w args)
      (Rows.disasmEventsSpec.post enc Tryz.prog Tryz.f9 false true false false) := by
  refine returnsInHanded_of_change_and (C := Tryz.checked) (X := fun w _ => laidMetH Tryz.prog laidE w) (fun _ _ _ hh h => h.of_heap hh) ownKnob0 started (by kernel_rfl) Tryz.func9
    (ChangeSpec.witness_shaped (enc := enc) (C := Tryz.checked) (os := os) (X := fun w _ => laidMetH Tryz.prog laidE w) false (World.doorLaid Tryz.prog 400 os) #[.agg #[.slice none 0 0, .slice none 0 0, .slice none 0 0, .slice none 0 0, .slice none 0 0], .agg #[.int .i64 0, .int .i64 0, .int .i64 0, .int .i64 0, .int .i64 0, .int .i64 0, .int .i64 0, .int .i64 0, .int .i64 0]] 8 rfl (World.shaped_of_RefB (by kernel_rfl) (by kernel_rfl)) (by kernel_rfl) (by kernel_rfl) (by kernel_rfl) (doorE os _)) ?_
  intro W base args ds gs before hval0 hW _ _ hL _
  have hval : ∀ (j : Nat) t v, Tryz.f9.params[j]? = some t → args[j]? = some v → Value.okWide Tryz.prog W .any base t v := hval0
  have hW' := hW
  obtain ⟨p, q, hA0, hV, rfl, hfz, hnd⟩ := hW
  have hA : DataW.TrodAll enc Tryz.prog W 0 (fun _ => true) true Tryz.f9.params.toList args.toList ds p := hA0
  rw [Tryz.params9] at hA hval
  obtain ⟨v0, vs0, d0, ds0, p0, q0, hargs, rfl, rfl, h0, r0⟩ := trodAll_cons hA
  obtain ⟨v1, vs1, d1, ds1, p1, q1, rfl, rfl, rfl, h1, r1⟩ := trodAll_cons r0
  obtain ⟨rfl, rfl, rfl⟩ := trodAll_nil r1
  obtain rfl : args = #[v0, v1] := by cases args; simp_all
  obtain ⟨rfl, rfl⟩ := trodVars_none hV
  have g0 := h0
  have g1 := h1
  obtain ⟨a0, pg0, rfl, pw0, gw0⟩ := openPg (hval 0 28 v0 rfl rfl) h0
  obtain ⟨a1, rfl, w1⟩ := openE9 (hval 1 52 v1 rfl rfl) h1
  clear hA0 hval0
  simp only [List.append_nil] at hW'
  refine (lawEvents a1 w1 W pw0 gw0 (metE hL)).mono fun e W' ⟨he, hb⟩ => ?_
  subst he
  exact ⟨_, rfl, _, _, _, [], _, [], hW', trodAll_cons_mk (shut_bool Tryz.underlying4 _) trodAll_mk0, trodAll_cons_mk (Below.trod laidOut0 (by kernel_rfl) (of_decide_eq_true (by kernel_rfl)) g0 hb (fun y hy => by simpa using hW'.lt y (by simp [hy]))) (trodAll_cons_mk (Below.trod laidOut0 (by kernel_rfl) (of_decide_eq_true (by kernel_rfl)) g1 hb (fun y hy => by simpa using hW'.lt y (by simp [hy]))) (trodAll_mk0)), rfl, hb.frame _, fun h => by cases h⟩

theorem over : Rows.disasmEventsRow.holds Tryz.pinned (OpenSpec.ofChange Rows.disasmEventsSpec) :=
  OpenClaim.holds_of_wide 9 Tryz.f9 rfl rfl rfl rfl rfl rfl rfl ⟨rfl, rfl, rfl, rfl, rfl⟩ rfl rfl rfl rfl rfl (by kernel_rfl) Tryz.func9 (by kernel_rfl)
    (of_decide_eq_true (by kernel_rfl)) (by unfold Func.isWrapper; first | (rw [if_pos (by decide +kernel)]; kernel_rfl) | (rw [if_neg (by decide +kernel)]; exact ⟨rfl, rfl⟩))
    (fun os started H enc _ => lifted os started H enc)

theorem proved : Rows.DisasmEventsCardSaid :=
  Claim7.holds_tied_plain_at .later [] [.data, .data, .data, .data, .data, .data, .data] true Rows.disasmEventsCard.stood.harness true
    over (fun _ h => by cases h) (by kernel_rfl) (fun _ h => by cases h) disasmEvents_row_tie rfl ⟨rfl, rfl⟩ (by kernel_rfl) rfl
    (fun f fn hf hfn => by
      obtain rfl : f = 9 := Option.some.inj ((show Tryz.prog.funcNamed Rows.disasmEventsRow.func = some 9 by kernel_rfl).symm.trans hf) |>.symm
      obtain rfl : fn = Tryz.f9 := (Option.some.inj (Tryz.func9.symm.trans hfn)).symm
      exact ⟨by kernel_rfl, fun j t ht => by
        rw [Tryz.params9] at ht
        have hm : t ∈ [28, 52] := by simpa using Array.mem_of_getElem? ht
        have hall : ([28, 52].all fun u => !Tryz.prog.wantsStandIn u) = true := by kernel_rfl
        exact (show Tryz.prog.wantsStandIn t = false by simpa using List.all_eq_true.1 hall t hm)⟩)
    (by kernel_rfl)
#print axioms proved
end Go.Proofs.YtnckpjcfgeajbaaGreatDoor.disasmEvents
