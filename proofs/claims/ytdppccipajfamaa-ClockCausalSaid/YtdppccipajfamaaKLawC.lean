/-
  The law ClockCausal returns true for every message log, if the examples hold; nothing that was in memory changes.
-/
import Derived.Test.YtdppccipajfamaaKLawB
namespace Go.Proofs.Ytdppccipajfamaa
open Go.RowKit

theorem leRch {ag fr : List Int} {n : Nat} (hl : Log fr n) (hn : n ≤ 1000000) {i j : Nat} (hi : i < n) (hj : j < n) : leB (cl ag fr i) (cl ag fr j) = rchB ag fr i j := by
  rw [Bool.eq_iff_iff, causal hl hn hi hj, rchIff]
theorem lawCausalOut (LV : Lives) (n m : Nat) (h : 30 < n ∨ m ≠ n) (A B : Option Addr) (c d : Nat) (w : World) : Calls Try.prog 8 #[.slice A n c, .slice B m d] w (LawOk w) := by
  by_cases h1 : 30 < n
  · clear h
    go_enter Try.func8, Try.ntmps8
    go_wp2_with fail
    refine (LV _).mono ?_
    rintro e w9 ⟨rfl, b9⟩
    go_wp2
    go_ret
    exact ⟨rfl, b9⟩
  · have h2 : ((m : Int) != (n : Int)) = true := by simp; omega
    clear h
    have h1' : decide ((30 : Int) < (n : Int)) = false := by simp; omega
    go_enter Try.func8, Try.ntmps8
    go_wp2_with fail
    refine (LV _).mono ?_
    rintro e w9 ⟨rfl, b9⟩
    go_wp2
    go_ret
    exact ⟨rfl, b9⟩
set_option maxHeartbeats 1000000 in
theorem lawCausalErr (LV : Lives) (fr : List Int) (n : Nat) (hm : fr.length = n) (hE0 : errL n n fr ≠ 0) (hs : n ≤ 30) (A B : Option Addr) (c d : Nat) (w : World) (hb : Rd w B d fr) :
    Calls Try.prog 8 #[.slice A n c, .slice B n d] w (LawOk w) := by
  have hE : errL n n fr = 1 := by
    by_cases hl : Log fr n
    · exact absurd (errOk (by omega) hl) hE0
    · exact errBad (by omega) hl
  have hNL : ¬ Log fr n := fun hl => hE0 (errOk (by omega) hl)
  have hlb := hb.le
  have hcb := hb.max
  unfold maxLen at hcb
  have HB := Lib.hid hb; clear hb
  have HM := Lib.hid hm; clear hm
  have HNL := Lib.hid hNL; clear hNL hE0
  have HE := Lib.hid hE; clear hE
  have h5 : ((n : Int) != (n : Int)) = false := by simp
  have h1' : decide ((30 : Int) < (n : Int)) = false := by simp; omega
  go_enter Try.func8, Try.ntmps8
  go_wp2_with fail
  refine (iStampsErr fr n n HM.out 1 HE.out (by omega) A B c d _ (by unfold maxLen; omega) HB.out).mono ?_
  rintro e w1 ⟨rfl, rfl⟩
  go_wp2
  go_loop [7] (fun i => ∃ k : Nat, k ≤ n ∧ i = .int .i64 k ∧ Hid (Log fr k)) (fun i => n - (intOf i).toNat)
  case atStart => exact ⟨0, Nat.zero_le _, rfl, Lib.hid fun j hj => by omega⟩
  case round =>
    obtain ⟨k, hk, rfl, HT⟩ := hrel
    by_cases hlt : k < n
    · have hkl : k < fr.length := by have := HM.out; omega
      obtain ⟨ad, rfl, _, hc⟩ := HB.out.one hkl
      by_cases g1 : fr[k] < -1
      · generalize fr[k] = x at *
        go_wp2_with fail
        refine (LV _).mono ?_
        rintro e w9 ⟨rfl, b9⟩
        go_wp2
        go_ret
        exact ⟨rfl, b9⟩
      by_cases g2 : (k : Int) ≤ fr[k]
      · generalize fr[k] = x at *
        go_wp2_with fail
        refine (LV _).mono ?_
        rintro e w9 ⟨rfl, b9⟩
        go_wp2
        go_ret
        exact ⟨rfl, b9⟩
      · have HX := Lib.hid (logSucc HT.out hkl (by omega) (by omega))
        generalize fr[k] = x at *
        go_wp2
        go_round
        case rel => exact ⟨k + 1, by omega, by go_num, HX⟩
        case measure => simp [intOf]; omega
    · exfalso
      obtain rfl : k = n := by omega
      exact HNL.out HT.out

set_option maxHeartbeats 2000000 in
theorem lawCausalOk (LV : Lives) (ag fr : List Int) (n : Nat) (hn : ag.length = n) (hm : fr.length = n) (hE : errL n n fr = 0) (hs : n ≤ 30) (hwf : ∀ x ∈ ag, (Lit.int .i64 x).wf = true) (A B : Option Addr) (c d : Nat) (w : World) (ha : Rd w A c ag) (hb : Rd w B d fr) :
    Calls Try.prog 8 #[.slice A n c, .slice B n d] w (LawOk w) := by
  obtain ⟨_, _, hlog⟩ := errZero hE
  have hlb := hb.le
  have hcb := hb.max
  unfold maxLen at hcb
  rw [hm] at hlb
  have HA := Lib.hid ha; clear ha
  have HB := Lib.hid hb; clear hb
  have HN := Lib.hid hn; clear hn
  have HM := Lib.hid hm; clear hm
  have HE := Lib.hid hE; clear hE
  have HLG := Lib.hid hlog; clear hlog
  have HWF := Lib.hid hwf; clear hwf
  have h5 : ((n : Int) != (n : Int)) = false := by simp
  have h1' : decide ((30 : Int) < (n : Int)) = false := by simp; omega
  go_enter Try.func8, Try.ntmps8
  go_wp2_with fail
  refine (iStampsOk ag fr n HN.out HM.out HE.out HWF.out A B c d _ HA.out HB.out).mono ?_
  rintro e w1 ⟨A1, c1, rfl, r1, b1⟩
  have R1 := Lib.hid r1; clear r1
  have B1 := Lib.hid b1; clear b1
  have HA1 := Lib.hid (HA.out.below B1.out); clear HA
  have HB1 := Lib.hid (HB.out.below B1.out); clear HB
  have hl1 := R1.out.le
  have hm1 := R1.out.max
  unfold maxLen at hm1
  go_wp2
  go_loop [7] (fun i => ∃ k : Nat, k ≤ n ∧ i = .int .i64 k) (fun i => n - (intOf i).toNat)
  case atStart => exact ⟨0, Nat.zero_le _, rfl⟩
  case round =>
    obtain ⟨k, hk, rfl⟩ := hrel
    by_cases hlt : k < n
    · have hkl : k < fr.length := by have := HM.out; omega
      obtain ⟨bd, rfl, _, hc⟩ := HB1.out.one hkl
      have hlk := HLG.out k hlt
      rw [show fr.getD k 0 = fr[k] by rw [List.getD_eq_getElem?_getD, List.getElem?_eq_getElem hkl]; rfl] at hlk
      obtain ⟨g1, g2⟩ := hlk
      generalize fr[k] = x at *
      go_wp2
      go_round
      case rel => exact ⟨k + 1, by omega, by go_num⟩
      case measure => simp [intOf]; omega
    · go_wp2
      clear hlt hk
      go_loopw [8] (fun vi wr => ∃ i : Nat, i ≤ n ∧ vi = .int .i64 i ∧ Below w1.heap.size w1 wr) (fun vi _ => n - (intOf vi).toNat)
      case atStart => exact ⟨0, Nat.zero_le _, rfl, Below.refl _ _⟩
      case round =>
        obtain ⟨i, hi, rfl, hb⟩ := hrel
        by_cases hlt : i < n
        · go_wp2_with fail
          refine (rReaches ag fr n i HN.out HM.out hlt A B c d _ (HA1.out.below hb) (HB1.out.below hb) (by omega)).mono ?_
          rintro e w2 ⟨g, rfl, hg, hrow, b2⟩
          have HR := Lib.hid hrow; clear hrow
          have B2 := Lib.hid (belowThen hb b2); clear b2 hb
          have R2 := Lib.hid (R1.out.below B2.out)
          go_wp2
          go_loopw [10] (fun vj wq => ∃ j : Nat, j ≤ n ∧ vj = .int .i64 j ∧ Below w2.heap.size w2 wq) (fun vj _ => n - (intOf vj).toNat)
          case atStart => exact ⟨0, Nat.zero_le _, rfl, Below.refl _ _⟩
          case round =>
            obtain ⟨j, hj, rfl, hb⟩ := hrel
            by_cases hlj : j < n
            · obtain ⟨a1, D1, e1, rfl, ha1, k1, q1⟩ := R2.out.one hlt
              obtain ⟨a2, D2, e2, ea, ha2, k2, q2⟩ := R2.out.one hlj
              injection ea with ea
              subst ea
              have k3 := HR.out j hlj
              have hle := leRch (ag := ag) HLG.out (by omega) hlt hlj
              obtain ⟨P, hP⟩ : ∃ P, rchB ag fr i j = P := ⟨_, rfl⟩
              rw [hP] at k3 hle
              have hPP : (P != P) = false := by simp
              have HLE := Lib.hid hle; clear hle hP
              have hn1 := lenCl (ag := ag) HLG.out (by have := HN.out; omega) hlt
              have hn2 := lenCl (ag := ag) HLG.out (by have := HN.out; omega) hlj
              obtain ⟨l1, hl1⟩ : ∃ l, (cl ag fr i).length = l := ⟨_, rfl⟩
              obtain ⟨l2, hl2⟩ : ∃ l, (cl ag fr j).length = l := ⟨_, rfl⟩
              rw [hl1] at k1 hn1
              rw [hl2] at k2 hn2
              have HL1 := Lib.hid hl1; clear hl1
              have HL2 := Lib.hid hl2; clear hl2
              have Q1 := Lib.hid q1; clear q1
              have Q2 := Lib.hid q2; clear q2
              have HK := Lib.hid (show ∀ w', Below w2.heap.size w2 w' → w'.cell? (a1.add i) = some (.slice D1 l1 e1) ∧ w'.cell? (a1.add j) = some (.slice D2 l2 e2) ∧ w'.cell? ⟨g, j, none⟩ = some (.bool P) ∧ Below w2.heap.size w2 w' from fun w' b => ⟨(b.cell (p := a1.add i) (by rw [addBlock]; exact ha1)).trans k1, (b.cell (p := a1.add j) (by rw [addBlock]; exact ha2)).trans k2, (b.cell hg).trans k3, b⟩)
              clear k1 k2 k3
              go_wp2_with fail
              go_region_held3 (fun w' => w'.cell? (a1.add i) = some (.slice D1 l1 e1) ∧ w'.cell? (a1.add j) = some (.slice D2 l2 e2) ∧ w'.cell? ⟨g, j, none⟩ = some (.bool P) ∧ Below w2.heap.size w2 w')
                (first
                  | assumption
                  | exact HK.out _ hb.drew
                  | exact HK.out _ (belowThen (‹_ ∧ _ ∧ _ ∧ Below w2.heap.size w2 _›).2.2.2 bk))
                (first
                  | (go_at_call 21; (with_reducible refine (iLessEq (cl ag fr i) (cl ag fr j) l1 l2 HL1.out HL2.out P HLE.out (by omega) (by omega) D1 D2 e1 e2 _ (Q1.out.below (‹_ ∧ _ ∧ _ ∧ Below w2.heap.size w2 _›).2.2.2) (Q2.out.below (‹_ ∧ _ ∧ _ ∧ Below w2.heap.size w2 _›).2.2.2)).mono ?_); rintro e w3 ⟨rfl, bk⟩))
              all_goals
                have hbe := (‹_ ∧ _ ∧ _ ∧ Below w2.heap.size w2 _›).2.2.2
                go_wp2
                go_roundw
                case rel => exact ⟨j + 1, by omega, by go_num, hbe⟩
                case measure => simp [intOf]; omega
            · go_wp2
              go_roundw
              case rel => exact ⟨i + 1, by omega, by go_num, B2.out.trans (hb.mono B2.out.size)⟩
              case measure => simp [intOf]; omega
        · go_wp2_with fail
          refine (LV _).mono ?_
          rintro e w9 ⟨rfl, b9⟩
          go_wp2
          go_ret
          exact ⟨rfl, belowThen B1.out (hb.trans (b9.mono hb.size))⟩
theorem lawCausal (LV : Lives) (ag fr : List Int) (n m : Nat) (hn : ag.length = n) (hm : fr.length = m) (hwf : ∀ x ∈ ag, (Lit.int .i64 x).wf = true) (A B : Option Addr) (c d : Nat) (w : World) (ha : Rd w A c ag) (hb : Rd w B d fr) :
    Calls Try.prog 8 #[.slice A n c, .slice B m d] w (LawOk w) := by
  by_cases hs : 30 < n ∨ m ≠ n
  · exact lawCausalOut LV n m hs A B c d w
  · obtain rfl : m = n := by omega
    by_cases hE : errL m m fr = 0
    · exact lawCausalOk LV ag fr m hn hm hE (by omega) hwf A B c d w ha hb
    · exact lawCausalErr LV fr m hm hE (by omega) A B c d w hb
end Go.Proofs.Ytdppccipajfamaa
