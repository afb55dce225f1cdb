/-
  The law IntsetPower: a set with n elements has 2^n subsets, all valid and in order.
-/
import Derived.Test.YthfllfdgndaddaaLawC
import Derived.Test.YthfllfdgndaddaaPowMath
namespace Go.Proofs.Ythfllfdgndaddaa
open Go.RowKit

set_option maxHeartbeats 1000000 in
theorem vLess (a b : List Int) (n m : Nat) (hn : a.length = n) (hm : b.length = m) (h : lessB a b = true) (A B : Option Addr) (c d : Nat) (w : World) (ha : Rd w A c a) (hb : Rd w B d b) :
    Calls Try.prog 33 #[.slice A n c, .slice B m d] w fun e w' => e = .returned (.bool true) ∧ ∃ q, w' = w.drewN q := by
  have hla := ha.le
  have hlb := hb.le
  rw [hn] at hla
  rw [hm] at hlb
  have hca := ha.max
  have hcb := hb.max
  unfold maxLen at hca hcb
  have HA := Lib.hid ha; clear ha
  have HB := Lib.hid hb; clear hb
  have HN := Lib.hid hn; clear hn
  have HM := Lib.hid hm; clear hm
  have HL := Lib.hid (show lessB (a.drop 0) (b.drop 0) = true from h); clear h
  go_enter Try.func33, Try.ntmps33
  go_wp2
  go_loopw [5] (fun i wr => ∃ k : Nat, k ≤ n ∧ i = .int .i64 k ∧ Hid (lessB (a.drop k) (b.drop k) = true) ∧ ∃ q, wr = w.drewN q) (fun i _ => n - (intOf i).toNat)
  case atStart => exact ⟨0, Nat.zero_le _, rfl, HL, 0, rfl⟩
  case round =>
    clear HL
    obtain ⟨k, hk, rfl, HT, q, rfl⟩ := hrel
    obtain ⟨hka, hkb, hor⟩ := lessAt HT.out
    have hka' : k < n := by rw [← HN.out]; exact hka
    have hkb' : k < m := by rw [← HM.out]; exact hkb
    obtain ⟨ad, rfl, _, hc⟩ := HA.out.one hka
    obtain ⟨bd, rfl, _, hd⟩ := HB.out.one hkb
    rcases hor with ⟨e, h'⟩ | hlt
    · have HX := Lib.hid h'; clear h'
      rw [e] at hc
      clear e
      generalize b[k] = y at hc hd
      have hyy : (y != y) = false := by simp
      go_wp2
      go_quiet (fail)
      go_wp2
      go_roundw
      case rel => exact ⟨k + 1, by omega, by go_num, HX, by first | exact ⟨_, rfl⟩ | exact ⟨_, World.drewN_drewN _ _ _⟩⟩
      case measure => simp [intOf]; omega
    · generalize a[k] = x at *
      generalize b[k] = y at *
      have hxy : (x != y) = true := by simp; omega
      go_wp2
      go_quiet (fail)
      go_wp2
      go_quiet (fail)
      go_wp2
      go_ret
      exact ⟨by simp, by simp only [World.drewN_drewN]; exact ⟨_, rfl⟩⟩

/-- What the law asks of each place of the list. -/
theorem powAt {s l : List Int} (hs : mk l = s) {i : Nat} (hi : i < (upTo s (s.length + 1)).length) :
    srtB ((upTo s (s.length + 1))[i]) = true ∧ subB ((upTo s (s.length + 1))[i]) l = true ∧ ((upTo s (s.length + 1))[i]).length ≤ s.length ∧
      (∀ _ : 0 < i, Bef ((upTo s (s.length + 1))[i - 1]) ((upTo s (s.length + 1))[i])) := by
  have hss : Srt s := by rw [← hs]; exact srtMk l
  have hm := List.getElem_mem hi
  refine ⟨srtB_yes (upSrt hss hm), ?_, by have := lenOfUp hm; omega, fun h0 => upAdj hss hi h0⟩
  unfold subB
  refine decide_eq_true fun x hx => ?_
  have := upSub hm x hx
  rw [← hs] at this
  exact memMk.1 this

theorem mulTwo {P j : Nat} (h : P = 2 ^ j) : 2 * P = 2 ^ (j + 1) := by rw [h, Nat.pow_succ]; omega
theorem powLe {j : Nat} (h : j ≤ 12) : 2 ^ j ≤ 4096 := by have := Nat.pow_le_pow_right (n := 2) (by omega) h; omega

set_option maxHeartbeats 2000000 in
theorem lawPowerNo (l : List Int) (n : Nat) (hn : l.length = n) (hs : n ≤ 30) (hbig : 12 < (mk l).length) (A : Option Addr) (c : Nat) (w : World) (ha : Rd w A c l) :
    Calls Try.prog 8 #[.slice A n c] w (LawOk w) := by
  have HA := Lib.hid ha; clear ha
  have HN := Lib.hid hn; clear hn
  obtain ⟨s, hsm⟩ : ∃ s, mk l = s := ⟨_, rfl⟩
  have hl := lenMk l
  rw [hsm] at hbig hl
  rw [HN.out] at hl
  obtain ⟨m, hm⟩ : ∃ m, s.length = m := ⟨_, rfl⟩
  rw [hm] at hbig hl
  have hbig' : 12 < (mk l).length := by rw [hsm, hm]; exact hbig
  have HBIG := Lib.hid hbig'; clear hbig'
  have HS := Lib.hid hsm; clear hsm
  have HM := Lib.hid hm; clear hm
  go_enter Try.func8, Try.ntmps8
  go_wp2_with fail
  refine ((iSubsetsNo l n HN.out (by omega) HBIG.out A c _ HA.out).mono fun _ _ h => h.rd).mono ?_
  rintro e w1 ⟨A1, c1, rfl, r1, b1⟩
  go_wp2_with fail
  refine (iMakeN l n HN.out s HS.out (by omega) A c _ (HA.out.below b1)).mono ?_
  rintro e w2 ⟨A2, c2, rfl, r2, b2⟩
  rw [HM.out]
  go_wp2_with fail
  refine (awakeOk _).mono ?_
  rintro e w3 ⟨rfl, b3⟩
  go_wp2
  go_ret
  exact ⟨rfl, belowThen b1 (belowThen b2 b3)⟩

set_option maxRecDepth 100000 in
set_option maxHeartbeats 4000000 in
theorem lawPowerYes (l : List Int) (n : Nat) (hn : l.length = n) (hs : n ≤ 30) (s : List Int) (hsm : mk l = s) (hbig : s.length ≤ 12) (A : Option Addr) (c : Nat) (w : World) (ha : Rd w A c l) :
    Calls Try.prog 8 #[.slice A n c] w (LawOk w) := by
  have HA := Lib.hid ha; clear ha
  have HN := Lib.hid hn; clear hn
  have HAT := Lib.hid (fun (i : Nat) (hi : i < (upTo s (s.length + 1)).length) => powAt hsm hi)
  obtain ⟨ls, hls⟩ : ∃ ls, upTo s (s.length + 1) = ls := ⟨_, rfl⟩
  have hpow := lenUpAll s
  rw [hls] at hpow
  obtain ⟨m, hm⟩ : ∃ m, s.length = m := ⟨_, rfl⟩
  have HB12 := Lib.hid hbig
  rw [hm] at hbig hpow
  obtain ⟨N, hN⟩ : ∃ N, ls.length = N := ⟨_, rfl⟩
  have hN4 : N ≤ 4096 := by rw [← hN, hpow]; exact powLe hbig
  rw [hN] at hpow
  have HP := Lib.hid hpow; clear hpow
  have HNN := Lib.hid hN; clear hN
  have HLS := Lib.hid hls
  have HAT2 : Hid (∀ (i : Nat) (hi : i < ls.length), srtB ls[i] = true ∧ subB ls[i] l = true ∧ ls[i].length ≤ s.length ∧ ∀ _ : 0 < i, Bef ls[i - 1] ls[i]) := by subst hls; exact HAT
  clear HAT hls
  have HS := Lib.hid hsm; clear hsm
  have HM := Lib.hid hm; clear hm
  go_enter Try.func8, Try.ntmps8
  go_wp2_with fail
  refine ((iSubsetsYes l s HS.out n HN.out (by omega) HB12.out A c _ HA.out).mono fun _ _ h => h.rd).mono ?_
  rintro e w1 ⟨A1, c1, rfl, r1, b1⟩
  rw [HLS.out] at r1 ⊢
  rw [HNN.out]
  have R1 := Lib.hid r1; clear r1
  go_wp2_with fail
  refine (iMakeN l n HN.out s HS.out (by omega) A c _ (HA.out.below b1)).mono ?_
  rintro e w2 ⟨A2, c2, rfl, r2, b2⟩
  rw [HM.out]
  clear r2
  go_wp2
  go_loop [6, 7] (fun p i => ∃ (j P : Nat), j ≤ m ∧ P ≤ 4096 ∧ i = .int .i64 j ∧ p = .int .i64 P ∧ Hid (P = 2 ^ j)) (fun _ i => m - (intOf i).toNat)
  case atStart => exact ⟨0, 1, Nat.zero_le _, by omega, rfl, rfl, Lib.hid rfl⟩
  case round =>
    obtain ⟨j, P, hj, hP, rfl, rfl, HPW⟩ := hrel
    by_cases hlt : j < m
    · have h2 := Lib.hid (mulTwo HPW.out)
      have h3 : 2 * P ≤ 4096 := by rw [h2.out]; exact powLe (by omega)
      go_wp2
      go_round
      case rel => exact ⟨j + 1, 2 * P, by omega, h3, by go_num, by go_num, h2⟩
      case measure => simp [intOf]; omega
    · obtain rfl : j = m := by omega
      obtain rfl : N = P := by rw [HPW.out, HP.out]
      have hNN : ((N : Int) != (N : Int)) = false := by simp
      go_wp2
      clear hNN
      have RW := Lib.hid (R1.out.below b2)
      go_loopw [8] (fun i wr => ∃ k : Nat, k ≤ N ∧ i = .int .i64 k ∧ Hid (Below w2.heap.size w2 wr)) (fun i _ => N - (intOf i).toNat)
      case atStart => exact ⟨0, Nat.zero_le _, rfl, Lib.hid (Below.refl _ _)⟩
      case round =>
        obtain ⟨k, hk, rfl, HB⟩ := hrel
        by_cases hlt : k < N
        · have hkl : k < ls.length := by rw [HNN.out]; exact hlt
          have RK := RW.out.below HB.out
          have hNc := RK.le
          rw [HNN.out] at hNc
          have hcm := RK.max
          unfold maxLen at hcm
          obtain ⟨ad, A', c', rfl, hc, hrx⟩ := RK.one hkl
          have RKH := Lib.hid RK; clear RK
          have HATK := Lib.hid (HAT2.out k hkl)
          obtain ⟨x, hx⟩ : ∃ x, ls[k] = x := ⟨_, rfl⟩
          rw [hx] at hc hrx HATK
          have HX := Lib.hid hx; clear hx
          obtain ⟨nx, hnx⟩ : ∃ nx, x.length = nx := ⟨_, rfl⟩
          have hx12 : nx ≤ 12 := by rw [← hnx]; exact Nat.le_trans HATK.out.2.2.1 HB12.out
          rw [hnx] at hc
          have HNX := Lib.hid hnx; clear hnx
          have hbl := World.block_lt_of_cell? wr _ hc
          have HRX := Lib.hid hrx; clear hrx
          go_wp2_with fail
          refine (iValidN x nx HNX.out true HATK.out.1 A' c' _ HRX.out).mono ?_
          rintro e w3 ⟨rfl, b3⟩
          have hc3 := (b3.cell hbl).trans hc
          go_wp2_with fail
          refine (iSubset x l nx n HNX.out HN.out true HATK.out.2.1 (by omega) (by omega) A' A c' c _ (HRX.out.below b3) (HA.out.below (belowThen b1 (belowThen b2 (belowThen HB.out b3))))).mono ?_
          rintro e w4 ⟨rfl, b4⟩
          have b34 := belowThen b3 b4
          have hc4 := (b34.cell hbl).trans hc
          have HB4 := Lib.hid (belowThen HB.out b34)
          clear hc3
          rcases Nat.eq_zero_or_pos k with hk0 | hk0
          · subst hk0
            go_wp2
            go_quiet (fail)
            go_wp2
            go_roundw
            case rel => exact ⟨1, by omega, by go_num, Lib.hid (belowDrewN HB4.out _)⟩
            case measure => simp [intOf]; omega
          · have s1 : IntKind.i64.wrap ((k : Int) - 1) = ((k - 1 : Nat) : Int) := by
              rw [IntWalk.i64_in _ (by omega)]; omega
            obtain ⟨ad', A0, c0, e', hp, hry⟩ := RKH.out.one (k := k - 1) (by omega)
            obtain rfl : ad = ad' := by injection e'
            clear e'
            have HBF := Lib.hid (HATK.out.2.2.2 hk0)
            obtain ⟨y, hy⟩ : ∃ y, ls[k - 1]'(by omega) = y := ⟨_, rfl⟩
            rw [hy] at hp hry HBF
            clear hy
            obtain ⟨ny, hny⟩ : ∃ ny, y.length = ny := ⟨_, rfl⟩
            rw [hny] at hp
            have HNY := Lib.hid hny; clear hny
            have hbp := World.block_lt_of_cell? wr _ hp
            have hp4 := (b34.cell hbp).trans hp
            have HRY := Lib.hid (hry.below b34); clear hry
            have HRX4 := Lib.hid (HRX.out.below b34)
            rcases HBF.out with hlt' | ⟨heq, hls'⟩
            · rw [HNY.out, HNX.out] at hlt'
              have g1 : decide (nx < ny) = false := by simp; omega
              have g2 : ((nx : Int) == (ny : Int)) = false := by simp; omega
              go_wp2
              go_quiet (fail)
              go_wp2
              go_roundw
              case rel => exact ⟨k + 1, by omega, by go_num, Lib.hid (belowDrewN HB4.out _)⟩
              case measure => simp [intOf]; omega
            · rw [HNY.out, HNX.out] at heq
              subst heq
              have HLB := Lib.hid hls'; clear hls'
              have g2 : ((ny : Int) == (ny : Int)) = true := by simp
              go_wp2
              go_quiet ((go_at_call 33; exact Calls.quiet_of (vLess y x ny ny HNY.out HNX.out HLB.out A0 A' c0 c' _ (HRY.out.drewN _) (HRX4.out.drewN _))))
              go_wp2
              go_roundw
              case rel => exact ⟨k + 1, by omega, by go_num, Lib.hid (belowDrewN HB4.out _)⟩
              case measure => simp [intOf]; omega
        · go_wp2_with fail
          refine (awakeOk _).mono ?_
          rintro e w3 ⟨rfl, b3⟩
          go_wp2
          go_ret
          exact ⟨rfl, belowThen b1 (belowThen b2 (belowThen HB.out b3))⟩

theorem lawPower (l : List Int) (n : Nat) (hn : l.length = n) (A : Option Addr) (c : Nat) (w : World) (ha : Rd w A c l) :
    Calls Try.prog 8 #[.slice A n c] w (LawOk w) := by
  by_cases hs : n ≤ 30
  · by_cases hb : (mk l).length ≤ 12
    · exact lawPowerYes l n hn hs _ rfl hb A c w ha
    · exact lawPowerNo l n hn hs (by omega) A c w ha
  · clear ha hn
    go_enter Try.func8, Try.ntmps8
    go_wp2_with fail
    refine (awakeOk _).mono ?_
    rintro e w1 ⟨rfl, b1⟩
    go_wp2
    go_ret
    exact ⟨rfl, b1⟩
end Go.Proofs.Ythfllfdgndaddaa
