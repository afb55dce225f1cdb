/-
  The laws ClockStamps and ClockCausal return true for every message log, if the examples hold; nothing that was in memory changes.
-/
import Derived.Test.YtdppccipajfamaaKLawA
import Derived.Test.YtdppccipajfamaaReach
namespace Go.Proofs.Ytdppccipajfamaa
open Go.RowKit

set_option maxHeartbeats 1000000 in
theorem lawStampsErr (LV : Lives) (fr : List Int) (n m : Nat) (hm : fr.length = m) (hE0 : errL n m fr ≠ 0) (hs : n ≤ 600) (hs' : m ≤ 600) (A B : Option Addr) (c d : Nat) (w : World) (hnm : n ≤ maxLen) (hb : Rd w B d fr) :
    Calls Try.prog 6 #[.slice A n c, .slice B m d] w (LawOk w) := by
  have HB := Lib.hid hb; clear hb
  have HM := Lib.hid hm; clear hm
  have HNM := Lib.hid hnm; clear hnm
  obtain ⟨E, hE⟩ : ∃ E, errL n m fr = E := ⟨_, rfl⟩
  rw [hE] at hE0
  have HE := Lib.hid hE; clear hE
  have HE0 := Lib.hid hE0; clear hE0
  have hEE : (E != E) = false := by simp
  by_cases h1 : 60 < n
  · by_cases h2 : n ≤ 512
    · by_cases h3 : n = m
      · subst h3
        have h4 : ((n : Int) == (n : Int)) = true := by simp
        go_enter Try.func6, Try.ntmps6
        go_wp2_with fail
        refine (iStampsErr fr n n HM.out E HE.out HE0.out A B c d _ HNM.out HB.out).mono ?_
        rintro e w1 ⟨rfl, rfl⟩
        go_wp2_with fail
        refine (LV _).mono ?_
        rintro e w9 ⟨rfl, b9⟩
        go_wp2
        go_ret
        exact ⟨rfl, b9⟩
      · have h4 : ((n : Int) == (m : Int)) = false := by simp; omega
        go_enter Try.func6, Try.ntmps6
        go_wp2_with fail
        refine (iStampsErr fr n m HM.out E HE.out HE0.out A B c d _ HNM.out HB.out).mono ?_
        rintro e w1 ⟨rfl, rfl⟩
        go_wp2_with fail
        refine (rStampsErr fr n m HM.out E HE.out HE0.out A B c d _ HNM.out HB.out).mono ?_
        rintro e w1 ⟨rfl, rfl⟩
        go_wp2
        go_loop [9] (fun i => i = .int .i64 0) (fun _ => 0)
        case atStart => rfl
        case round =>
          obtain rfl := hrel
          go_wp2_with fail
          refine (LV _).mono ?_
          rintro e w9 ⟨rfl, b9⟩
          go_wp2
          go_ret
          exact ⟨rfl, b9⟩
    · have h2' : decide ((n : Int) ≤ 512) = false := by simp; omega
      go_enter Try.func6, Try.ntmps6
      go_wp2_with fail
      refine (iStampsErr fr n m HM.out E HE.out HE0.out A B c d _ HNM.out HB.out).mono ?_
      rintro e w1 ⟨rfl, rfl⟩
      go_wp2_with fail
      refine (rStampsErr fr n m HM.out E HE.out HE0.out A B c d _ HNM.out HB.out).mono ?_
      rintro e w1 ⟨rfl, rfl⟩
      go_wp2
      go_loop [9] (fun i => i = .int .i64 0) (fun _ => 0)
      case atStart => rfl
      case round =>
        obtain rfl := hrel
        go_wp2_with fail
        refine (LV _).mono ?_
        rintro e w9 ⟨rfl, b9⟩
        go_wp2
        go_ret
        exact ⟨rfl, b9⟩
  · have h1' : decide ((60 : Int) < (n : Int)) = false := by simp; omega
    go_enter Try.func6, Try.ntmps6
    go_wp2_with fail
    refine (iStampsErr fr n m HM.out E HE.out HE0.out A B c d _ HNM.out HB.out).mono ?_
    rintro e w1 ⟨rfl, rfl⟩
    go_wp2_with fail
    refine (rStampsErr fr n m HM.out E HE.out HE0.out A B c d _ HNM.out HB.out).mono ?_
    rintro e w1 ⟨rfl, rfl⟩
    go_wp2
    go_loop [9] (fun i => i = .int .i64 0) (fun _ => 0)
    case atStart => rfl
    case round =>
      obtain rfl := hrel
      go_wp2_with fail
      refine (LV _).mono ?_
      rintro e w9 ⟨rfl, b9⟩
      go_wp2
      go_ret
      exact ⟨rfl, b9⟩

set_option maxHeartbeats 2000000 in
theorem lawStampsOk (LV : Lives) (ag fr : List Int) (n : Nat) (hn : ag.length = n) (hm : fr.length = n) (hE : errL n n fr = 0) (hwf : ∀ x ∈ ag, (Lit.int .i64 x).wf = true) (A B : Option Addr) (c d : Nat) (w : World) (ha : Rd w A c ag) (hb : Rd w B d fr) :
    Calls Try.prog 6 #[.slice A n c, .slice B n d] w (LawOk w) := by
  obtain ⟨_, hbig, _⟩ := errZero hE
  have HA := Lib.hid ha; clear ha
  have HB := Lib.hid hb; clear hb
  have HN := Lib.hid hn; clear hn
  have HM := Lib.hid hm; clear hm
  have HE := Lib.hid hE; clear hE
  have HWF := Lib.hid hwf; clear hwf
  have h4 : ((n : Int) == (n : Int)) = true := by simp
  by_cases h1 : 60 < n
  · go_enter Try.func6, Try.ntmps6
    go_wp2_with fail
    refine (iStampsOk ag fr n HN.out HM.out HE.out HWF.out A B c d _ HA.out HB.out).mono ?_
    rintro e w1 ⟨A1, c1, rfl, r1, b1⟩
    clear r1
    go_wp2_with fail
    refine (LV _).mono ?_
    rintro e w9 ⟨rfl, b9⟩
    go_wp2
    go_ret
    exact ⟨rfl, belowThen b1 b9⟩
  · have h1' : decide ((60 : Int) < (n : Int)) = false := by simp; omega
    have h5 : ((n : Int) != (n : Int)) = false := by simp
    go_enter Try.func6, Try.ntmps6
    go_wp2_with fail
    refine (iStampsOk ag fr n HN.out HM.out HE.out HWF.out A B c d _ HA.out HB.out).mono ?_
    rintro e w1 ⟨A1, c1, rfl, r1, b1⟩
    have R1 := Lib.hid r1; clear r1
    go_wp2_with fail
    refine (rStampsOk ag fr n HN.out HM.out HE.out A B c d _ (HA.out.below b1) (HB.out.below b1)).mono ?_
    rintro e w2 ⟨A2, c2, rfl, r2, b2⟩
    have R2 := Lib.hid r2; clear r2
    have R12 := Lib.hid (R1.out.below b2); clear R1
    have B12 := Lib.hid (belowThen b1 b2); clear b1 b2
    have hl1 := R12.out.le
    have hl2 := R2.out.le
    have hm1 := R12.out.max
    have hm2 := R2.out.max
    unfold maxLen at hm1 hm2
    go_wp2
    go_loopw [9] (fun i wr => ∃ k : Nat, k ≤ n ∧ i = .int .i64 k ∧ Below w2.heap.size w2 wr) (fun i _ => n - (intOf i).toNat)
    case atStart => exact ⟨0, Nat.zero_le _, rfl, Below.refl _ _⟩
    case round =>
      obtain ⟨k, hk, rfl, hb⟩ := hrel
      by_cases hlt : k < n
      · obtain ⟨a1, D1, e1, rfl, ha1, k1, q1⟩ := R12.out.one hlt
        obtain ⟨a2, D2, e2, rfl, ha2, k2, q2⟩ := R2.out.one hlt
        obtain ⟨C, hC⟩ : ∃ C, cl ag fr k = C := ⟨_, rfl⟩
        rw [hC] at k1 k2 q1 q2
        clear hC
        obtain ⟨l, hl⟩ : ∃ l, C.length = l := ⟨_, rfl⟩
        rw [hl] at k1 k2
        have HL := Lib.hid hl; clear hl
        have Q1 := Lib.hid q1; clear q1
        have Q2 := Lib.hid q2; clear q2
        have HK := Lib.hid (show ∀ w', Below w2.heap.size w2 w' → w'.cell? (a1.add k) = some (.slice D1 l e1) ∧ w'.cell? (a2.add k) = some (.slice D2 l e2) ∧ Below w2.heap.size w2 w' from fun w' b => ⟨(b.cell (p := a1.add k) (by rw [addBlock]; exact ha1)).trans k1, (b.cell (p := a2.add k) (by rw [addBlock]; exact ha2)).trans k2, b⟩)
        clear k1 k2
        go_wp2_with fail
        go_region_held3 (fun w' => w'.cell? (a1.add k) = some (.slice D1 l e1) ∧ w'.cell? (a2.add k) = some (.slice D2 l e2) ∧ Below w2.heap.size w2 w')
          (first
            | assumption
            | exact HK.out _ hb.drew
            | exact HK.out _ (belowThen (‹_ ∧ _ ∧ Below w2.heap.size w2 _›).2.2 bk))
          (first
            | (go_at_call 14; (with_reducible refine (sameOwn C l l HL.out HL.out D1 D2 e1 e2 _ (Q1.out.below (‹_ ∧ _ ∧ Below w2.heap.size w2 _›).2.2) (Q2.out.below (‹_ ∧ _ ∧ Below w2.heap.size w2 _›).2.2)).mono ?_); rintro e w3 ⟨rfl, bk⟩))
        all_goals
          have hbe := (‹_ ∧ _ ∧ Below w2.heap.size w2 _›).2.2
          go_wp2
          go_roundw
          case rel => exact ⟨k + 1, by omega, by go_num, hbe⟩
          case measure => simp [intOf]; omega
      · go_wp2_with fail
        refine (LV _).mono ?_
        rintro e w9 ⟨rfl, b9⟩
        go_wp2
        go_ret
        exact ⟨rfl, belowThen B12.out (belowThen hb b9)⟩

theorem lawLong (LV : Lives) (n m : Nat) (h : 600 < n ∨ 600 < m) (A B : Option Addr) (c d : Nat) (w : World) : Calls Try.prog 6 #[.slice A n c, .slice B m d] w (LawOk w) := by
  by_cases h1 : 600 < n
  · clear h
    go_enter Try.func6, Try.ntmps6
    go_wp2_with fail
    refine (LV _).mono ?_
    rintro e w9 ⟨rfl, b9⟩
    go_wp2
    go_ret
    exact ⟨rfl, b9⟩
  · have h2 : 600 < m := by omega
    clear h
    have h1' : decide ((600 : Int) < (n : Int)) = false := by simp; omega
    go_enter Try.func6, Try.ntmps6
    go_wp2_with fail
    refine (LV _).mono ?_
    rintro e w9 ⟨rfl, b9⟩
    go_wp2
    go_ret
    exact ⟨rfl, b9⟩
theorem lawStamps (LV : Lives) (ag fr : List Int) (n m : Nat) (hn : ag.length = n) (hm : fr.length = m) (hwf : ∀ x ∈ ag, (Lit.int .i64 x).wf = true) (A B : Option Addr) (c d : Nat) (w : World) (ha : Rd w A c ag) (hb : Rd w B d fr) :
    Calls Try.prog 6 #[.slice A n c, .slice B m d] w (LawOk w) := by
  by_cases hs : 600 < n ∨ 600 < m
  · exact lawLong LV n m hs A B c d w
  · by_cases hE : errL n m fr = 0
    · obtain ⟨rfl, _, _⟩ := errZero hE
      exact lawStampsOk LV ag fr n hn hm hE hwf A B c d w ha hb
    · exact lawStampsErr LV fr n m hm hE (by omega) (by omega) A B c d w (by rw [← hn]; exact Nat.le_trans ha.le ha.max) hb
end Go.Proofs.Ytdppccipajfamaa
