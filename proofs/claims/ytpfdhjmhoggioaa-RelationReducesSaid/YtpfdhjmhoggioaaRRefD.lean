/-
  The contract of the reference's Reduction.
-/
import Derived.Test.YtpfdhjmhoggioaaRRefK
namespace Go.Proofs.Ytpfdhjmhoggioaa
open Go.RowKit Go.Maps

set_option maxRecDepth 100000 in
set_option maxHeartbeats 2000000 in
theorem rReductionArg (N : Int) (l : Prs) (n : Nat) (hn : l.length = n) (hv : okR N l = false) (A : Option Addr) (c : Nat) (w : World) (ha : Rp w A c l) :
    Calls Try.prog 30 #[relV N A n c] w (GivesE 0 [] 1 w) := by
  have HN := Lib.hid hn; clear hn
  obtain ⟨W, hW, hB0, hB1, hbW, hzW⟩ := twoBoxes w N 0 (.slice A n c) (.slice none 0 0)
  have HA := Lib.hid (ha.below hbW); clear ha
  have HB0 := Lib.hid hB0; clear hB0
  have HB1 := Lib.hid hB1; clear hB1
  have HV := Lib.hid hv; clear hv
  obtain ⟨c0, c1, _, _⟩ := HB0.out.facts
  go_enter Try.func30, Try.ntmps30
  go_wp2_with fail
  refine (rValid N l n HN.out false HV.out A c _ HA.out).mono ?_
  rintro e w1 ⟨rfl, b1⟩
  have HB1 := Lib.hid (HB1.out.below b1)
  have hb1 := belowThen hbW b1
  obtain ⟨d2, d3, f2, f3⟩ := HB1.out.facts
  go_wp2
  refine bodyPost_ret (ResE (HB1.out.stored 0 (.slice none 0 0)) rfl _ rfl) rfl ?_
  exact ⟨none, 0, rfl, Rp.nil, (hb1.setCell (Nat.le_succ _) _).setCell (Nat.le_succ _) _⟩
set_option maxRecDepth 100000 in
set_option maxHeartbeats 2000000 in
theorem rReductionCycle (N : Int) (l : Prs) (n : Nat) (hn : l.length = n) (hv : okR N l = true) (hc : acyR N l = false) (A : Option Addr) (c : Nat) (w : World) (ha : Rp w A c l) :
    Calls Try.prog 30 #[relV N A n c] w (GivesE 0 [] 20 w) := by
  have HN := Lib.hid hn; clear hn
  obtain ⟨W, hW, hB0, hB1, hbW, hzW⟩ := twoBoxes w N 0 (.slice A n c) (.slice none 0 0)
  have HA := Lib.hid (ha.below hbW); clear ha
  have HB0 := Lib.hid hB0; clear hB0
  have HB1 := Lib.hid hB1; clear hB1
  have HV := Lib.hid hv; clear hv
  have HC := Lib.hid hc; clear hc
  obtain ⟨c0, c1, _, _⟩ := HB0.out.facts
  go_enter Try.func30, Try.ntmps30
  go_wp2_with fail
  refine (rValid N l n HN.out true HV.out A c _ HA.out).mono ?_
  rintro e w1 ⟨rfl, b1⟩
  have HB0 := Lib.hid (HB0.out.below b1)
  have HB1 := Lib.hid (HB1.out.below b1)
  have hb1 := belowThen hbW b1
  obtain ⟨c0, c1, _, _⟩ := HB0.out.facts
  go_wp2_with fail
  refine (rAcyclic N l n HN.out false HC.out A c _ (HA.out.below b1)).mono ?_
  rintro e w2 ⟨rfl, b2⟩
  have HB1 := Lib.hid (HB1.out.below b2)
  have hb2 := belowThen hb1 b2
  obtain ⟨d2, d3, f2, f3⟩ := HB1.out.facts
  go_wp2
  refine bodyPost_ret (ResE (HB1.out.stored 0 (.slice none 0 0)) rfl _ rfl) rfl ?_
  exact ⟨none, 0, rfl, Rp.nil, (hb2.setCell (Nat.le_succ _) _).setCell (Nat.le_succ _) _⟩

set_option maxRecDepth 100000 in
set_option maxHeartbeats 4000000 in
theorem rReductionYes (N : Nat) (l : Prs) (n : Nat) (hN : N ≤ 64) (hn : l.length = n) (hv : okR N l = true) (hc : acyR N l = true) (L : Prs) (hL : nrm N (redT N (tcT N (hasP l))) = L) (A : Option Addr) (c : Nat) (w : World) (ha : Rp w A c l) :
    Calls Try.prog 30 #[relV N A n c] w (GivesE N L 0 w) := by
  obtain ⟨M, hM⟩ : ∃ M, N * N = M := ⟨_, rfl⟩
  have hM2 : M ≤ 4096 := by have h := Nat.mul_le_mul hN hN; omega
  have hMw := nnFacts hM2 hM
  obtain ⟨t, ht⟩ : ∃ t, tcT N (hasP l) = t := ⟨_, rfl⟩
  have HT := Lib.hid (fun w' ha' => rClosed N hN l n hn hv M hM A c w' ha')
  rw [ht] at HT hL
  have HLI := Lib.hid (fun q w' hr => rListed N hN (redT N t) M hM L hL q w' hr)
  have HN := Lib.hid hn
  have HV := Lib.hid hv
  have HAC := Lib.hid hc
  clear hL ht hn hv hc
  obtain ⟨W, hW, hB0, hB1, hbW, hzW⟩ := twoBoxes w N 0 (.slice A n c) (.slice none 0 0)
  have HA := Lib.hid (ha.below hbW); clear ha
  have HB0 := Lib.hid hB0; clear hB0
  have HB2 := Lib.hid hB1; clear hB1
  obtain ⟨c0, c1, _, _⟩ := HB0.out.facts
  go_enter Try.func30, Try.ntmps30
  go_wp2_with fail
  refine (rValid N l n HN.out true HV.out A c _ HA.out).mono ?_
  rintro e w1 ⟨rfl, b1⟩
  have HB0 := Lib.hid (HB0.out.below b1)
  have HB2 := Lib.hid (HB2.out.below b1)
  have HA := Lib.hid (HA.out.below b1)
  have hb1 := belowThen hbW b1
  obtain ⟨c0, c1, _, _⟩ := HB0.out.facts
  go_wp2_with fail
  refine (rAcyclic N l n HN.out true HAC.out A c _ HA.out).mono ?_
  rintro e w2 ⟨rfl, b2⟩
  have HB0 := Lib.hid (HB0.out.below b2)
  have HB2 := Lib.hid (HB2.out.below b2)
  have HA := Lib.hid (HA.out.below b2)
  have hb2 := belowThen hb1 b2
  obtain ⟨c0, c1, _, _⟩ := HB0.out.facts
  go_wp2_with fail
  refine (HT.out _ HA.out).mono ?_
  rintro e w4 ⟨gx, rfl, hrx, hgx, b4⟩
  have hgx4 := hrx.lt
  have HX := Lib.hid hrx; clear hrx
  have HB2 := Lib.hid (HB2.out.below b4)
  have hb4 := belowThen hb2 b4
  have hmk := run_make_row' (P := Try.prog) 45 4 (.bool false) 1 Try.underlying45 infoBool rfl .i64 .i64 M (by omega) (by omega)
  go_wp2
  obtain ⟨X, hX⟩ : ∃ X, w4.alloc (.cells (madeCells #[.bool false] M) 4) = X := ⟨_, rfl⟩
  rw [hX]
  have hro : RowB X w4.heap.size M (fun _ => false) := rowBNew (by rw [← hX]; exact heap_alloc_new w4 _) (by unfold maxLen; omega)
  have HR0 := Lib.hid (hro.congr (F := flat N (rdTo N t 0 0)) fun x _ => by unfold flat; rw [rdStart]); clear hro
  have bX : Below w4.heap.size w4 X := by rw [← hX]; exact belowAlloc _ _
  have HX := Lib.hid (HX.out.chg (Chg.ofBelow bX fun _ => True) trivial)
  have hb4s := hb4.size
  clear hmk hX
  go_loopw [7] (fun v wr => ∃ a : Nat, a ≤ N ∧ v = .int .i64 a ∧ Hid (RowB wr w4.heap.size M (flat N (rdTo N t a 0))) ∧ Hid (Chg X wr (fun q => q ≠ w4.heap.size))) (fun v _ => N - (intOf v).toNat)
  case atStart => exact ⟨0, Nat.zero_le _, rfl, HR0, Lib.hid (Chg.refl _ _)⟩
  case round =>
    clear HR0
    obtain ⟨a, hal, rfl, HR, HC⟩ := hrel
    by_cases hla : a < N
    · go_wp2
      go_loopw [8] (fun v wr => ∃ b : Nat, b ≤ N ∧ v = .int .i64 b ∧ Hid (RowB wr w4.heap.size M (flat N (rdTo N t a b))) ∧ Hid (Chg X wr (fun q => q ≠ w4.heap.size))) (fun v _ => N - (intOf v).toNat)
      case atStart => exact ⟨0, Nat.zero_le _, rfl, HR, HC⟩
      case round =>
        clear HR HC
        obtain ⟨b, hbl, rfl, HR, HC⟩ := hrel
        by_cases hlb : b < N
        · obtain ⟨p, hp⟩ : ∃ p, a * N = p := ⟨_, rfl⟩
          have l1 := flatLt hla hlb
          rw [hM, hp] at l1
          have k1 := (HX.out.chg HC.out (show gx ≠ w4.heap.size by omega)).at2 hp hlb l1
          obtain ⟨u0, hu0⟩ := (show ∃ u, wr.cell? ⟨w4.heap.size, p + b, none⟩ = some u from ⟨_, HR.out.cell l1⟩)
          have hfz := HR.out.frozen (p + b)
          obtain ⟨f1, f2, f3, f4, f5, f6, f7⟩ := ixFacts hM2 hp l1
          have HS0 := Lib.hid ((HR.out.put (p + b) (t a b)).congr (updFlat hM hp hlb fun x y _ _ => rdPut x y))
          have HC0 := Lib.hid (HC.out.trans (Chg.setCell wr ⟨w4.heap.size, p + b, none⟩ (.bool (t a b))) fun _ _ h => h)
          obtain ⟨tv, htv⟩ : ∃ tv, t a b = tv := ⟨_, rfl⟩
          rw [htv] at k1 HS0 HC0
          clear HR HC
          go_wp2
          clear k1 hu0 hfz htv
          go_loopw [9] (fun v wr => ∃ x : Nat, x ≤ N ∧ v = .int .i64 x ∧ Hid (RowB wr w4.heap.size M (flat N (rdIn N t a b x))) ∧ Hid (Chg X wr (fun q => q ≠ w4.heap.size))) (fun v _ => N - (intOf v).toNat)
          case atStart => exact ⟨0, Nat.zero_le _, rfl, HS0, HC0⟩
          case round =>
            clear HS0 HC0
            obtain ⟨x, hx, rfl, HR, HC⟩ := hrel
            by_cases hlx : x < N
            · obtain ⟨s, hs⟩ : ∃ s, x * N = s := ⟨_, rfl⟩
              have l2 := flatLt hla hlx
              rw [hM, hp] at l2
              have l3 := flatLt hlx hlb
              rw [hM, hs] at l3
              have HXR := HX.out.chg HC.out (show gx ≠ w4.heap.size by omega)
              have k2 := HXR.at2 hp hlx l2
              have k3 := HXR.at2 hs hlb l3
              clear HXR
              obtain ⟨g1, g2, g3, g4, g5, g6, g7⟩ := ixFacts hM2 hp l2
              obtain ⟨i1, i2, i3, i4, i5, i6, i7⟩ := ixFacts hM2 hs l3
              obtain ⟨u0, hu0⟩ := (show ∃ u, wr.cell? ⟨w4.heap.size, p + b, none⟩ = some u from ⟨_, HR.out.cell l1⟩)
              have hfz := HR.out.frozen (p + b)
              cases hu : t a x with
              | false =>
                rw [hu] at k2
                have HZ := Lib.hid (HR.out.congr (flatCongr hM fun y z _ _ => rdMiss (.inl hu) y z)); clear hu
                go_wp2
                all_goals exact ⟨⟨x + 1, by omega, by go_num, HZ, HC⟩, by simp [intOf]; omega⟩
              | true =>
                cases hv : t x b with
                | false =>
                  rw [hu] at k2
                  rw [hv] at k3
                  have HZ := Lib.hid (HR.out.congr (flatCongr hM fun y z _ _ => rdMiss (.inr hv) y z)); clear hu hv
                  go_wp2
                  all_goals exact ⟨⟨x + 1, by omega, by go_num, HZ, HC⟩, by simp [intOf]; omega⟩
                | true =>
                  rw [hu] at k2
                  rw [hv] at k3
                  have HZ := Lib.hid ((HR.out.put (p + b) false).congr (updFlat hM hp hlb fun y z _ _ => rdHit hu hv y z))
                  have HC2 := Lib.hid (HC.out.trans (Chg.setCell wr ⟨w4.heap.size, p + b, none⟩ (.bool false)) fun _ _ h => h)
                  clear hu hv
                  go_wp2
                  all_goals exact ⟨⟨x + 1, by omega, by go_num, HZ, HC2⟩, by simp [intOf]; omega⟩
            · obtain rfl : x = N := by omega
              have HZ := Lib.hid (HR.out.congr (flatCongr hM fun y z _ _ => rdNext y z))
              go_wp2
              all_goals exact ⟨⟨b + 1, by omega, by go_num, HZ, HC⟩, by simp [intOf]; omega⟩
        · obtain rfl : b = N := by omega
          have HZ := Lib.hid (HR.out.congr (flatCongr hM fun x y _ hy => rdRow hy))
          go_wp2
          all_goals exact ⟨⟨a + 1, by omega, by go_num, HZ, HC⟩, by simp [intOf]; omega⟩
    · obtain rfl : a = N := by omega
      have HZ := Lib.hid (HR.out.congr (flatCongr hM fun x y hx _ => rdEnd hx))
      have bC : Below w4.heap.size w4 wr := ⟨HC.out.os.trans bX.os, HC.out.tape.trans bX.tape, HC.out.output.trans bX.output, Nat.le_trans bX.size HC.out.size, fun q hq => (HC.out.block q (Nat.lt_of_lt_of_le hq bX.size) (by omega)).trans (bX.block q hq)⟩
      have HB3 := Lib.hid (HB2.out.below bC)
      have hbC := belowThen hb4 bC
      go_wp2_with fail
      refine (HLI.out _ _ HZ.out).mono ?_
      rintro e w7 ⟨A7, c7, rfl, hr7, b7⟩
      have HR7 := Lib.hid hr7; clear hr7
      have hb7 := belowThen hbC b7
      have HB7 := Lib.hid (HB3.out.below b7)
      obtain ⟨p0, p1, p2, p3⟩ := HB7.out.facts
      go_wp2
      refine bodyPost_ret (ResE (HB7.out.stored a (.slice A7 L.length c7)) rfl _ rfl) rfl ?_
      exact ⟨_, _, rfl, HR7.out.stored HB7.out _ _, (hb7.setCell (Nat.le_succ _) _).setCell (Nat.le_succ _) _⟩
end Go.Proofs.Ytpfdhjmhoggioaa
