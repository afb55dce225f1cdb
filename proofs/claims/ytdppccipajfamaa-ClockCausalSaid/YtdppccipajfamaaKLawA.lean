/-
  The laws ClockGets, ClockAdvances and ClockJoins return true for every clock and agent, if the examples hold; nothing that was in memory changes.
-/
import Derived.Test.YtdppccipajfamaaRStamps
import Derived.Deep.RegionHeld3
namespace Go.Proofs.Ytdppccipajfamaa
open Go.RowKit

/-- The law returns true; what was in memory is unchanged. -/
def LawOk (w : World) (e : Ending) (w' : World) : Prop := e = .returned (.bool true) ∧ Below w.heap.size w w'
/-- The examples hold. -/
def Lives : Prop := ∀ w : World, Calls Try.prog 9 #[] w fun e w' => e = .returned (.bool true) ∧ Below w.heap.size w w'
theorem sameOwn (l : Ck) (n m : Nat) (hn : l.length = n) (hm : l.length = m) (A B : Option Addr) (c d : Nat) (w : World) (ha : Rc w A c l) (hb : Rc w B d l) : Calls Try.prog 14 #[.slice A n c, .slice B m d] w fun e w' => e = .returned (.bool true) ∧ Below w.heap.size w w' :=
  (rSame l l n m hn hm true (eqC_yes rfl) A B c d w ha hb).mono fun e w' ⟨h1, q, h2⟩ => ⟨h1, by rw [h2]; exact belowN w q⟩
/-- What a call returns that makes a clock. -/
def GivesR (l : Ck) (n : Nat) (w : World) (e : Ending) (w' : World) : Prop := ∃ A c, e = .returned (.slice A n c) ∧ Rc w' A c l ∧ Below w.heap.size w w'
theorem givesR {l : Ck} {n : Nat} (hn : l.length = n) {w : World} {e : Ending} {w' : World} (h : GivesC l w e w') : GivesR l n w e w' := by
  obtain ⟨v, rfl, o, b⟩ := h
  obtain ⟨A, c, rfl, r, _⟩ := o.rd
  exact ⟨A, c, by rw [hn], r, b⟩
theorem rLeB (a b : Ck) (n m : Nat) (hn : a.length = n) (hm : b.length = m) (r : Bool) (hr : leB a b = r) (A B : Option Addr) (c d : Nat) (w : World) (ha : Rc w A c a) (hb : Rc w B d b) :
    Calls Try.prog 22 #[.slice A n c, .slice B m d] w fun e w' => e = .returned (.bool r) ∧ Below w.heap.size w w' :=
  (rLessEq a b n m hn hm r hr A B c d w ha hb).mono fun e w' ⟨h1, q, h2⟩ => ⟨h1, by rw [h2]; exact belowN w q⟩
theorem rConB (a b : Ck) (n m : Nat) (hn : a.length = n) (hm : b.length = m) (r : Bool) (hr : conB a b = r) (A B : Option Addr) (c d : Nat) (w : World) (ha : Rc w A c a) (hb : Rc w B d b) :
    Calls Try.prog 24 #[.slice A n c, .slice B m d] w fun e w' => e = .returned (.bool r) ∧ Below w.heap.size w w' :=
  (rConcurrent a b n m hn hm r hr A B c d w ha hb).mono fun e w' ⟨h1, q, h2⟩ => ⟨h1, by rw [h2]; exact belowN w q⟩
theorem rValidB (l : Ck) (n : Nat) (hn : l.length = n) (r : Bool) (hr : vldB l = r) (A : Option Addr) (c : Nat) (w : World) (ha : Rc w A c l) :
    Calls Try.prog 13 #[.slice A n c] w fun e w' => e = .returned (.bool r) ∧ Below w.heap.size w w' :=
  (rValid l n hn r hr A c w ha).mono fun e w' ⟨h1, q, h2⟩ => ⟨h1, by rw [h2]; exact belowN w q⟩
theorem rGetB (l : Ck) (x : Int) (n : Nat) (hn : l.length = n) (r : Int) (hr : getC l x = r) (A : Option Addr) (c : Nat) (w : World) (ha : Rc w A c l) :
    Calls Try.prog 11 #[.slice A n c, .int .i64 x] w fun e w' => e = .returned (.int .i64 r) ∧ Below w.heap.size w w' :=
  (rGet l x n hn r hr A c w ha).mono fun e w' ⟨h1, q, h2⟩ => ⟨h1, by rw [h2]; exact belowN w q⟩


set_option maxHeartbeats 1000000 in
theorem lawAdvances (LV : Lives) (a : Ck) (x : Int) (n : Nat) (hn : a.length = n) (A : Option Addr) (c : Nat) (w : World) (ha : Rc w A c a) :
    Calls Try.prog 4 #[.slice A n c, .int .i64 x] w (LawOk w) := by
  have HA := Lib.hid ha; clear ha
  have HN := Lib.hid hn; clear hn
  by_cases hs : n ≤ 40
  · obtain ⟨J, hJ⟩ : ∃ J, advC a x = J := ⟨_, rfl⟩
    have HJ := Lib.hid hJ; clear hJ
    obtain ⟨k, hk⟩ : ∃ k, J.length = k := ⟨_, rfl⟩
    have HK := Lib.hid hk; clear hk
    go_enter Try.func4, Try.ntmps4
    go_wp2_with fail
    refine ((iAdvance a x n HN.out J HJ.out (by omega) A c _ HA.out).mono fun _ _ h => givesR HK.out h).mono ?_
    rintro e w1 ⟨AJ, cJ, rfl, rJ, b1⟩
    have RJ := Lib.hid rJ; clear rJ
    go_wp2_with fail
    refine ((rAdvance a x n HN.out J HJ.out (by omega) A c _ (HA.out.below (b1))).mono fun _ _ h => givesR HK.out h).mono ?_
    rintro e w2 ⟨AK, cK, rfl, rK, b2⟩
    have RK := Lib.hid rK; clear rK
    go_wp2_with fail
    refine (sameOwn J k k HK.out HK.out AJ AK cJ cK _ (RJ.out.below (b2)) RK.out).mono ?_
    rintro e w3 ⟨rfl, b3⟩
    go_wp2_with fail
    refine (LV _).mono ?_
    rintro e w4 ⟨rfl, b4⟩
    go_wp2
    go_ret
    exact ⟨rfl, belowThen (belowThen (belowThen (b1) b2) b3) b4⟩
  · go_enter Try.func4, Try.ntmps4
    go_wp2_with fail
    refine (LV _).mono ?_
    rintro e w1 ⟨rfl, b1⟩
    go_wp2
    go_ret
    exact ⟨rfl, b1⟩

set_option maxHeartbeats 1000000 in
theorem lawJoins (LV : Lives) (a b : Ck) (n m : Nat) (hn : a.length = n) (hm : b.length = m) (A B : Option Addr) (c d : Nat) (w : World) (ha : Rc w A c a) (hb : Rc w B d b) :
    Calls Try.prog 5 #[.slice A n c, .slice B m d] w (LawOk w) := by
  have HA := Lib.hid ha; clear ha
  have HB := Lib.hid hb; clear hb
  have HN := Lib.hid hn; clear hn
  have HM := Lib.hid hm; clear hm
  by_cases hs : n ≤ 40
  · by_cases hs' : m ≤ 40
    · obtain ⟨J, hJ⟩ : ∃ J, joinC a b = J := ⟨_, rfl⟩
      have HJ := Lib.hid hJ; clear hJ
      obtain ⟨k, hk⟩ : ∃ k, J.length = k := ⟨_, rfl⟩
      have HK := Lib.hid hk; clear hk
      obtain ⟨M, hM⟩ : ∃ M, meetC a b = M := ⟨_, rfl⟩
      have HMT := Lib.hid hM; clear hM
      obtain ⟨l, hl⟩ : ∃ l, M.length = l := ⟨_, rfl⟩
      have HL := Lib.hid hl; clear hl
      obtain ⟨p, hp⟩ : ∃ p, leB a b = p := ⟨_, rfl⟩
      have HP := Lib.hid hp; clear hp
      obtain ⟨q, hq⟩ : ∃ q, conB a b = q := ⟨_, rfl⟩
      have HQ := Lib.hid hq; clear hq
      have hpp : (p == p) = true := by simp
      have hqq : (q == q) = true := by simp
      go_enter Try.func5, Try.ntmps5
      go_wp2_with fail
      refine ((iJoin a b n m HN.out HM.out J HJ.out (by omega) (by omega) A B c d _ HA.out HB.out).mono fun _ _ h => givesR HK.out h).mono ?_
      rintro e w1 ⟨AJ, cJ, rfl, rJ, b1⟩
      have RJ := Lib.hid rJ; clear rJ
      go_wp2_with fail
      refine ((rJoin a b n m HN.out HM.out J HJ.out (by omega) (by omega) A B c d _ (HA.out.below (b1)) (HB.out.below (b1))).mono fun _ _ h => givesR HK.out h).mono ?_
      rintro e w2 ⟨AK, cK, rfl, rK, b2⟩
      have RK := Lib.hid rK; clear rK
      go_wp2_with fail
      refine (sameOwn J k k HK.out HK.out AJ AK cJ cK _ (RJ.out.below (b2)) RK.out).mono ?_
      rintro e w3 ⟨rfl, b3⟩
      go_wp2_with fail
      refine ((iMeet a b n m HN.out HM.out M HMT.out (by omega) (by omega) A B c d _ (HA.out.below (belowThen (belowThen (b1) b2) b3)) (HB.out.below (belowThen (belowThen (b1) b2) b3))).mono fun _ _ h => givesR HL.out h).mono ?_
      rintro e w4 ⟨AM, cM, rfl, rM, b4⟩
      have RM := Lib.hid rM; clear rM
      go_wp2_with fail
      refine ((rMeet a b n m HN.out HM.out M HMT.out (by omega) (by omega) A B c d _ (HA.out.below (belowThen (belowThen (belowThen (b1) b2) b3) b4)) (HB.out.below (belowThen (belowThen (belowThen (b1) b2) b3) b4))).mono fun _ _ h => givesR HL.out h).mono ?_
      rintro e w5 ⟨AN, cN, rfl, rN, b5⟩
      have RN := Lib.hid rN; clear rN
      go_wp2_with fail
      refine (sameOwn M l l HL.out HL.out AM AN cM cN _ (RM.out.below (b5)) RN.out).mono ?_
      rintro e w6 ⟨rfl, b6⟩
      go_wp2_with fail
      refine (iLessEq a b n m HN.out HM.out p HP.out (by omega) (by omega) A B c d _ (HA.out.below (belowThen (belowThen (belowThen (belowThen (belowThen (b1) b2) b3) b4) b5) b6)) (HB.out.below (belowThen (belowThen (belowThen (belowThen (belowThen (b1) b2) b3) b4) b5) b6))).mono ?_
      rintro e w7 ⟨rfl, b7⟩
      go_wp2_with fail
      refine (rLeB a b n m HN.out HM.out p HP.out A B c d _ (HA.out.below (belowThen (belowThen (belowThen (belowThen (belowThen (belowThen (b1) b2) b3) b4) b5) b6) b7)) (HB.out.below (belowThen (belowThen (belowThen (belowThen (belowThen (belowThen (b1) b2) b3) b4) b5) b6) b7))).mono ?_
      rintro e w8 ⟨rfl, b8⟩
      go_wp2_with fail
      refine (iConcurrent a b n m HN.out HM.out q HQ.out (by omega) (by omega) A B c d _ (HA.out.below (belowThen (belowThen (belowThen (belowThen (belowThen (belowThen (belowThen (b1) b2) b3) b4) b5) b6) b7) b8)) (HB.out.below (belowThen (belowThen (belowThen (belowThen (belowThen (belowThen (belowThen (b1) b2) b3) b4) b5) b6) b7) b8))).mono ?_
      rintro e w9 ⟨rfl, b9⟩
      go_wp2_with fail
      refine (rConB a b n m HN.out HM.out q HQ.out A B c d _ (HA.out.below (belowThen (belowThen (belowThen (belowThen (belowThen (belowThen (belowThen (belowThen (b1) b2) b3) b4) b5) b6) b7) b8) b9)) (HB.out.below (belowThen (belowThen (belowThen (belowThen (belowThen (belowThen (belowThen (belowThen (b1) b2) b3) b4) b5) b6) b7) b8) b9))).mono ?_
      rintro e w10 ⟨rfl, b10⟩
      go_wp2_with fail
      refine (LV _).mono ?_
      rintro e w11 ⟨rfl, b11⟩
      go_wp2
      go_ret
      exact ⟨rfl, belowThen (belowThen (belowThen (belowThen (belowThen (belowThen (belowThen (belowThen (belowThen (belowThen (b1) b2) b3) b4) b5) b6) b7) b8) b9) b10) b11⟩
    · go_enter Try.func5, Try.ntmps5
      go_wp2_with fail
      refine (LV _).mono ?_
      rintro e w1 ⟨rfl, b1⟩
      go_wp2
      go_ret
      exact ⟨rfl, b1⟩
  · go_enter Try.func5, Try.ntmps5
    go_wp2_with fail
    refine (LV _).mono ?_
    rintro e w1 ⟨rfl, b1⟩
    go_wp2
    go_ret
    exact ⟨rfl, b1⟩

set_option maxHeartbeats 1000000 in
theorem lawGets (LV : Lives) (a : Ck) (x : Int) (n : Nat) (hn : a.length = n) (A : Option Addr) (c : Nat) (w : World) (ha : Rc w A c a) :
    Calls Try.prog 3 #[.slice A n c, .int .i64 x] w (LawOk w) := by
  have hla := ha.le
  have hca := ha.max
  unfold maxLen at hca
  rw [hn] at hla
  have HA := Lib.hid ha; clear ha
  have HN := Lib.hid hn; clear hn
  by_cases hs : n ≤ 40
  · obtain ⟨p, hp⟩ : ∃ p, vldB a = p := ⟨_, rfl⟩
    have HP := Lib.hid hp; clear hp
    obtain ⟨g, hg⟩ : ∃ g, getC a x = g := ⟨_, rfl⟩
    have HG := Lib.hid hg; clear hg
    have hpp : (p == p) = true := by simp
    have hgg : (g == g) = true := by simp
    go_enter Try.func3, Try.ntmps3
    go_wp2
    go_loopw [5] (fun i wr => ∃ k : Nat, k ≤ n ∧ i = .int .i64 k ∧ Below w.heap.size w wr) (fun i _ => n - (intOf i).toNat)
    case atStart => exact ⟨0, Nat.zero_le _, rfl, Below.refl _ _⟩
    case round =>
      obtain ⟨k, hk, rfl, hb⟩ := hrel
      by_cases hlt : k < n
      · have hkl : k < a.length := by have := HN.out; omega
        obtain ⟨y, off, rfl, hbl, hc1, _⟩ := HA.out.one hkl
        obtain ⟨z, hz⟩ : ∃ z, a[k].1 = z := ⟨_, rfl⟩
        rw [hz] at hc1
        clear hz
        obtain ⟨G, hG⟩ : ∃ G, getC a z = G := ⟨_, rfl⟩
        have HGG := Lib.hid hG; clear hG
        have hGG : (G != G) = false := by simp
        have HK := Lib.hid (show ∀ w', Below w.heap.size w w' → w'.cell? ⟨y, off + k * 2, none⟩ = some (.int .i64 z) ∧ Below w.heap.size w w' from fun w' b => ⟨(b.cell hbl).trans hc1, b⟩)
        have HC := Lib.hid hc1; clear hc1
        go_wp2_with fail
        go_region_held3 (fun w' => w'.cell? ⟨y, off + k * 2, none⟩ = some (.int .i64 z) ∧ Below w.heap.size w w')
          (first
            | assumption
            | exact HK.out _ hb.drew
            | exact HK.out _ ((‹_ ∧ Below w.heap.size w _›).2.trans (bk.mono (‹_ ∧ Below w.heap.size w _›).2.size)))
          (first
            | (go_at_call 10; (with_reducible refine (iGet a z n HN.out G HGG.out _ c _ (HA.out.below (‹_ ∧ Below w.heap.size w _›).2)).mono ?_); rintro e w1 ⟨rfl, bk⟩)
            | (go_at_call 11; (with_reducible refine (rGetB a z n HN.out G HGG.out _ c _ (HA.out.below (‹_ ∧ Below w.heap.size w _›).2)).mono ?_); rintro e w1 ⟨rfl, bk⟩))
        all_goals
          have hbe := (‹_ ∧ Below w.heap.size w _›).2
          go_wp2
          go_roundw
          case rel => exact ⟨k + 1, by omega, by go_num, hbe⟩
          case measure => simp [intOf]; omega
      · go_wp2_with fail
        refine (iValid a n HN.out p HP.out A c _ (HA.out.below hb)).mono ?_
        rintro e w1 ⟨rfl, b1⟩
        go_wp2_with fail
        refine (rValidB a n HN.out p HP.out A c _ ((HA.out.below hb).below b1)).mono ?_
        rintro e w2 ⟨rfl, b2⟩
        go_wp2_with fail
        refine (iGet a x n HN.out g HG.out A c _ ((HA.out.below hb).below (belowThen b1 b2))).mono ?_
        rintro e w3 ⟨rfl, b3⟩
        go_wp2_with fail
        refine (rGetB a x n HN.out g HG.out A c _ ((HA.out.below hb).below (belowThen (belowThen b1 b2) b3))).mono ?_
        rintro e w4 ⟨rfl, b4⟩
        go_wp2_with fail
        refine (LV _).mono ?_
        rintro e w5 ⟨rfl, b5⟩
        go_wp2
        go_ret
        exact ⟨rfl, hb.trans ((belowThen (belowThen (belowThen (belowThen b1 b2) b3) b4) b5).mono hb.size)⟩
  · go_enter Try.func3, Try.ntmps3
    go_wp2_with fail
    refine (LV _).mono ?_
    rintro e w1 ⟨rfl, b1⟩
    go_wp2
    go_ret
    exact ⟨rfl, b1⟩
end Go.Proofs.Ytdppccipajfamaa
