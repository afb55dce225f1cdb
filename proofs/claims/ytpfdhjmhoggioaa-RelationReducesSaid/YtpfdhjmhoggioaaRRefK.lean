/-
  The contracts of the reference's Reduction and, for relations that match, Compose.
-/
import Derived.Test.YtpfdhjmhoggioaaRRefN
import Derived.Test.YtpfdhjmhoggioaaRUni
namespace Go.Proofs.Ytpfdhjmhoggioaa
open Go.RowKit Go.Maps

/-- A row of bools as make lays it. -/
theorem rowBNew {w : World} {g M : Nat} (h : w.heap[g]? = some (.cells (madeCells #[.bool false] M) 4 (0, 0))) (hM : M ≤ maxLen) : RowB w g M (fun _ => false) := by
  have e : (madeCells #[Value.bool false] M).toList = (List.replicate M false).map Value.bool := by rw [List.map_replicate]; exact toList_madeCells_one _ _
  have hs : (madeCells #[Value.bool false] M).size = M := by rw [← Array.length_toList, e]; simp
  refine ⟨by simp [blLen], .inr ⟨g, M, _, rfl, Nat.zero_le _, h, Nat.le_refl _, hM, by omega, ?_⟩⟩
  rw [List.take_of_length_le (by rw [Array.length_toList]; omega), e, blFalse]
theorem nnFacts {N M : Nat} (hM2 : M ≤ 4096) (hM : N * N = M) : IntKind.i64.wrap ((N : Int) * (N : Int)) = (M : Int) := by
  have hMI : (N : Int) * (N : Int) = (M : Int) := by rw [← hM]; simp
  rw [hMI, IntKind.wrap_i64]; omega

set_option maxRecDepth 100000 in
set_option maxHeartbeats 4000000 in
theorem rComposeYes (N : Nat) (l m : Prs) (n k : Nat) (hN : N ≤ 64) (hn : l.length = n) (hm : m.length = k) (hl : okR N l = true) (hl' : okR N m = true) (L : Prs) (hL : nrm N (cmpT N (hasP l) (hasP m)) = L) (A B : Option Addr) (c d : Nat) (w : World) (ha : Rp w A c l) (hb : Rp w B d m) :
    Calls Try.prog 19 #[relV N A n c, relV N B k d] w (GivesE N L 0 w) := by
  obtain ⟨M, hM⟩ : ∃ M, N * N = M := ⟨_, rfl⟩
  have hM2 : M ≤ 4096 := by have h := Nat.mul_le_mul hN hN; omega
  have hMw := nnFacts hM2 hM
  obtain ⟨f, hf⟩ : ∃ f, hasP l = f := ⟨_, rfl⟩
  obtain ⟨g, hg⟩ : ∃ g, hasP m = g := ⟨_, rfl⟩
  have HT1 := Lib.hid (fun w' ha' => rTable N hN l n hn hl M hM A c w' ha')
  have HT2 := Lib.hid (fun w' ha' => rTable N hN m k hm hl' M hM B d w' ha')
  rw [hf] at HT1 hL
  rw [hg] at HT2 hL
  have HLI := Lib.hid (fun q w' hr => rListed N hN (cmpT N f g) M hM L hL q w' hr)
  clear hL hf hg
  obtain ⟨W, hW, hB0, hB1, hB2, hbW, _⟩ := threeBoxes w N N (.slice A n c) (.slice B k d)
  have HA := Lib.hid (ha.below hbW); clear ha
  have HB := Lib.hid (hb.below hbW); clear hb
  have HN := Lib.hid hn; clear hn
  have HM := Lib.hid hm; clear hm
  have HV := Lib.hid hl
  have HV' := Lib.hid hl'
  have q3 : ((N : Int) != (N : Int)) = false := by simp
  clear hl hl'
  have HB0 := Lib.hid hB0; clear hB0
  have HB1 := Lib.hid hB1; clear hB1
  have HB2 := Lib.hid hB2; clear hB2
  obtain ⟨c0, c1, _, _⟩ := HB0.out.facts
  obtain ⟨c2, c3, _, _⟩ := HB1.out.facts
  go_enter Try.func19, Try.ntmps19
  go_wp2_with fail
  refine (rValid N l n HN.out true HV.out A c _ HA.out).mono ?_
  rintro e w1 ⟨rfl, b1⟩
  have HB0 := Lib.hid (HB0.out.below b1)
  have HB1 := Lib.hid (HB1.out.below b1)
  have HB2 := Lib.hid (HB2.out.below b1)
  obtain ⟨c2, c3, _, _⟩ := HB1.out.facts
  go_wp2_with fail
  refine (rValid N m k HM.out true HV'.out B d _ (HB.out.below b1)).mono ?_
  rintro e w2 ⟨rfl, b2⟩
  have HB0 := Lib.hid (HB0.out.below b2)
  have HB1 := Lib.hid (HB1.out.below b2)
  have HB2 := Lib.hid (HB2.out.below b2)
  have HA := Lib.hid ((HA.out.below b1).below b2)
  have HB := Lib.hid ((HB.out.below b1).below b2)
  have hb2 := belowThen (belowThen hbW b1) b2
  obtain ⟨c0, c1, _, _⟩ := HB0.out.facts
  obtain ⟨c2, c3, _, _⟩ := HB1.out.facts
  go_wp2_with fail
  refine (HT1.out _ HA.out).mono ?_
  rintro e w3 ⟨gx, rfl, hrx, hgx, b3⟩
  have hgxl := hrx.lt
  have HX := Lib.hid hrx; clear hrx
  have HB1 := Lib.hid (HB1.out.below b3)
  have HB2 := Lib.hid (HB2.out.below b3)
  have HB := Lib.hid (HB.out.below b3)
  have hb3 := belowThen hb2 b3
  obtain ⟨c2, c3, _, _⟩ := HB1.out.facts
  go_wp2_with fail
  refine (HT2.out _ HB.out).mono ?_
  rintro e w4 ⟨gy, rfl, hry, hgy, b4⟩
  have hgy4 := hry.lt
  have HY := Lib.hid hry; clear hry
  have HX := Lib.hid (HX.out.chg (Chg.ofBelow b4 fun _ => True) trivial)
  have HB2 := Lib.hid (HB2.out.below b4)
  have hb4 := belowThen hb3 b4
  have hmk := run_make_row' (P := Try.prog) 45 4 (.bool false) 1 Try.underlying45 infoBool rfl .i64 .i64 M (by omega) (by omega)
  go_wp2
  obtain ⟨X, hX⟩ : ∃ X, w4.alloc (.cells (madeCells #[.bool false] M) 4) = X := ⟨_, rfl⟩
  rw [hX]
  have hro : RowB X w4.heap.size M (fun _ => false) := rowBNew (by rw [← hX]; exact heap_alloc_new w4 _) (by unfold maxLen; omega)
  have HR0 := Lib.hid (hro.congr (F := flat N (comTo N f g 0 0 0)) fun x _ => by unfold flat; rw [comStart]); clear hro
  have bX : Below w4.heap.size w4 X := by rw [← hX]; exact belowAlloc _ _
  have HX := Lib.hid (HX.out.chg (Chg.ofBelow bX fun _ => True) trivial)
  have HY := Lib.hid (HY.out.chg (Chg.ofBelow bX fun _ => True) trivial)
  have hgx4 : gx < w4.heap.size := Nat.lt_of_lt_of_le hgxl b4.size
  have hb4s := hb4.size
  clear hmk hX
  go_loopw [10] (fun v wr => ∃ i : Nat, i ≤ N ∧ v = .int .i64 i ∧ Hid (RowB wr w4.heap.size M (flat N (comTo N f g i 0 0))) ∧ Hid (Chg X wr (fun q => q ≠ w4.heap.size))) (fun v _ => N - (intOf v).toNat)
  case atStart => exact ⟨0, Nat.zero_le _, rfl, HR0, Lib.hid (Chg.refl _ _)⟩
  case round =>
    clear HR0
    obtain ⟨i, hi, rfl, HR, HC⟩ := hrel
    by_cases hli : i < N
    · go_wp2
      go_loopw [11] (fun v wr => ∃ j : Nat, j ≤ N ∧ v = .int .i64 j ∧ Hid (RowB wr w4.heap.size M (flat N (comTo N f g i j 0))) ∧ Hid (Chg X wr (fun q => q ≠ w4.heap.size))) (fun v _ => N - (intOf v).toNat)
      case atStart => exact ⟨0, Nat.zero_le _, rfl, HR, HC⟩
      case round =>
        clear HR HC
        obtain ⟨j, hj, rfl, HR, HC⟩ := hrel
        by_cases hlj : j < N
        · go_wp2
          go_loopw [12] (fun v wr => ∃ k : Nat, k ≤ N ∧ v = .int .i64 k ∧ Hid (RowB wr w4.heap.size M (flat N (comTo N f g i j k))) ∧ Hid (Chg X wr (fun q => q ≠ w4.heap.size))) (fun v _ => N - (intOf v).toNat)
          case atStart => exact ⟨0, Nat.zero_le _, rfl, HR, HC⟩
          case round =>
            clear HR HC
            obtain ⟨k, hk, rfl, HR, HC⟩ := hrel
            obtain ⟨p, hp⟩ : ∃ p, i * N = p := ⟨_, rfl⟩
            obtain ⟨q, hq⟩ : ∃ q, j * N = q := ⟨_, rfl⟩
            have l1 := flatLt hli hlj
            rw [hM, hp] at l1
            have k1 := (HX.out.chg HC.out (show gx ≠ w4.heap.size by omega)).at2 hp hlj l1
            obtain ⟨f1, f2, f3, f4, f5, f6, f7⟩ := ixFacts hM2 hp l1
            by_cases hlk : k < N
            · have hdb : decide ((k : Int) < (N : Int)) = true := decide_eq_true (by omega)
              cases hff : f i j with
              | false =>
                rw [hff] at k1
                have HZ := Lib.hid (HR.out.congr (flatCongr hM fun x y _ hy => comRow (.inr hff) hy)); clear hff
                go_wp2
                all_goals exact ⟨⟨j + 1, by omega, by go_num, HZ, HC⟩, by simp [intOf]; omega⟩
              | true =>
                rw [hff] at k1
                have l2 := flatLt hli hlk
                rw [hM, hp] at l2
                have l3 := flatLt hlj hlk
                rw [hM, hq] at l3
                have k2 := HR.out.at2 hp hlk l2
                have k3 := (HY.out.chg HC.out (show gy ≠ w4.heap.size by omega)).at2 hq hlk l3
                obtain ⟨g1, g2, g3, g4, g5, g6, g7⟩ := ixFacts hM2 hp l2
                obtain ⟨i1, i2, i3, i4, i5, i6, i7⟩ := ixFacts hM2 hq l3
                have HU := Lib.hid (updFlat hM hp hlk (v := comTo N f g i j k i k || g j k) fun x y _ _ => comStep hff x y)
                clear hff
                obtain ⟨u, hu⟩ : ∃ u, comTo N f g i j k i k = u := ⟨_, rfl⟩
                obtain ⟨v, hv⟩ : ∃ v, g j k = v := ⟨_, rfl⟩
                rw [hu] at k2 HU
                rw [hv] at k3 HU
                clear hu hv
                have hfz := HR.out.frozen (p + k)
                have HS : ∀ z, z = (u || v) → Hid (RowB (wr.setCell ⟨w4.heap.size, p + k, none⟩ (.bool z)) w4.heap.size M (flat N (comTo N f g i j (k + 1)))) := fun z e => by subst e; exact Lib.hid ((HR.out.put (p + k) (u || v)).congr HU.out)
                have HC2 := Lib.hid (fun z => HC.out.trans (Chg.setCell wr ⟨w4.heap.size, p + k, none⟩ (.bool z)) fun _ _ h => h)
                cases u
                · have HS1 := HS v (by simp)
                  go_wp2
                  all_goals exact ⟨⟨k + 1, by omega, by go_num, HS1, Lib.hid (HC2.out _)⟩, by simp [intOf]; omega⟩
                · have HS1 := HS true (by simp)
                  go_wp2
                  all_goals exact ⟨⟨k + 1, by omega, by go_num, HS1, Lib.hid (HC2.out _)⟩, by simp [intOf]; omega⟩
            · obtain rfl : k = N := by omega
              have hdb : decide ((k : Int) < (k : Int)) = false := by simp
              have HZ := Lib.hid (HR.out.congr (flatCongr hM fun x y _ hy => comRow (.inl rfl) hy))
              go_wp2
              all_goals exact ⟨⟨j + 1, by omega, by go_num, HZ, HC⟩, by simp [intOf]; omega⟩
        · obtain rfl : j = N := by omega
          have HZ := Lib.hid (HR.out.congr (flatCongr hM fun x y _ _ => comNext))
          go_wp2
          all_goals exact ⟨⟨i + 1, by omega, by go_num, HZ, HC⟩, by simp [intOf]; omega⟩
    · obtain rfl : i = N := by omega
      have HZ := Lib.hid (HR.out.congr (flatCongr hM fun x y hx _ => comEnd hx))
      have bC : Below w4.heap.size w4 wr := ⟨HC.out.os.trans bX.os, HC.out.tape.trans bX.tape, HC.out.output.trans bX.output, Nat.le_trans bX.size HC.out.size, fun q hq => (HC.out.block q (Nat.lt_of_lt_of_le hq bX.size) (by omega)).trans (bX.block q hq)⟩
      have HB3 := Lib.hid (HB2.out.below bC)
      have hbC := belowThen hb4 bC
      go_wp2_with fail
      refine (HLI.out _ _ HZ.out).mono ?_
      rintro e w7 ⟨A7, c7, rfl, hr7, b7⟩
      have HR7 := Lib.hid hr7; clear hr7
      have hb7 := belowThen hbC b7
      have HB7 := Lib.hid (HB3.out.below b7)
      obtain ⟨p0, p1, p2, p3⟩ := HB7.out.facts
      go_wp2
      refine bodyPost_ret (ResE (HB7.out.stored i (.slice A7 L.length c7)) rfl _ rfl) rfl ?_
      exact ⟨_, _, rfl, HR7.out.stored HB7.out _ _, (hb7.setCell (show w.heap.size ≤ w.heap.size + 1 + 1 by omega) _).setCell (show w.heap.size ≤ w.heap.size + 1 + 1 by omega) _⟩
end Go.Proofs.Ytpfdhjmhoggioaa
