/-
  The law ClockLattice returns true for every three clocks, if the examples hold; nothing that was in memory changes.
-/
import Derived.Test.YtdppccipajfamaaKLawA
import Derived.Test.YtdppccipajfamaaLatMath
import Derived.Deep.DeepCutAuto
namespace Go.Proofs.Ytdppccipajfamaa
open Go.RowKit

set_option maxRecDepth 100000 in
set_option maxHeartbeats 400000 in
theorem lawLatOut (LV : Lives) (a b c : Ck) (n m k : Nat) (hn : a.length = n) (hm : b.length = m) (hk : c.length = k) (A B D : Option Addr) (e1 e2 e3 : Nat) (w : World) (ha : Rc w A e1 a) (hb : Rc w B e2 b) (hc : Rc w D e3 c) (h : 40 < n ∨ 40 < m ∨ 40 < k ∨ vldB a = false ∨ vldB b = false ∨ vldB c = false) :
    Calls Try.prog 7 #[.slice A n e1, .slice B m e2, .slice D k e3] w (LawOk w) := by
  have HA := Lib.hid ha; clear ha
  have HB := Lib.hid hb; clear hb
  have HC := Lib.hid hc; clear hc
  have HN := Lib.hid hn; clear hn
  have HM := Lib.hid hm; clear hm
  have HK := Lib.hid hk; clear hk
  have HO := Lib.hid h; clear h
  by_cases h1 : 40 < n
  · go_enter Try.func7, Try.ntmps7
    go_wp2_with fail
    refine (LV _).mono ?_
    rintro e w9 ⟨rfl, b9⟩
    go_wp2
    go_ret
    exact ⟨rfl, b9⟩
  have h1' : decide ((40 : Int) < (n : Int)) = false := by simp; omega
  by_cases h2 : 40 < m
  · go_enter Try.func7, Try.ntmps7
    go_wp2_with fail
    refine (LV _).mono ?_
    rintro e w9 ⟨rfl, b9⟩
    go_wp2
    go_ret
    exact ⟨rfl, b9⟩
  have h2' : decide ((40 : Int) < (m : Int)) = false := by simp; omega
  by_cases h3 : 40 < k
  · go_enter Try.func7, Try.ntmps7
    go_wp2_with fail
    refine (LV _).mono ?_
    rintro e w9 ⟨rfl, b9⟩
    go_wp2
    go_ret
    exact ⟨rfl, b9⟩
  have h3' : decide ((40 : Int) < (k : Int)) = false := by simp; omega
  rcases hva : vldB a with _ | _
  · have HVA := Lib.hid hva; clear hva
    go_enter Try.func7, Try.ntmps7
    go_wp2_with fail
    refine (rValidB a n HN.out _ HVA.out A e1 _ HA.out).mono ?_
    rintro e w1 ⟨rfl, b1⟩
    go_wp2_with fail
    refine (LV _).mono ?_
    rintro e w2 ⟨rfl, b2⟩
    go_wp2
    go_ret
    exact ⟨rfl, belowThen (b1) b2⟩
  rcases hvb : vldB b with _ | _
  · have HVA := Lib.hid hva; clear hva
    have HVB := Lib.hid hvb; clear hvb
    go_enter Try.func7, Try.ntmps7
    go_wp2_with fail
    refine (rValidB a n HN.out _ HVA.out A e1 _ HA.out).mono ?_
    rintro e w1 ⟨rfl, b1⟩
    go_wp2_with fail
    refine (rValidB b m HM.out _ HVB.out B e2 _ (HB.out.below (b1))).mono ?_
    rintro e w2 ⟨rfl, b2⟩
    go_wp2_with fail
    refine (LV _).mono ?_
    rintro e w3 ⟨rfl, b3⟩
    go_wp2
    go_ret
    exact ⟨rfl, belowThen (belowThen (b1) b2) b3⟩
  rcases hvc : vldB c with _ | _
  · have HVA := Lib.hid hva; clear hva
    have HVB := Lib.hid hvb; clear hvb
    have HVC := Lib.hid hvc; clear hvc
    go_enter Try.func7, Try.ntmps7
    go_wp2_with fail
    refine (rValidB a n HN.out _ HVA.out A e1 _ HA.out).mono ?_
    rintro e w1 ⟨rfl, b1⟩
    go_wp2_with fail
    refine (rValidB b m HM.out _ HVB.out B e2 _ (HB.out.below (b1))).mono ?_
    rintro e w2 ⟨rfl, b2⟩
    go_wp2_with fail
    refine (rValidB c k HK.out _ HVC.out D e3 _ (HC.out.below (belowThen (b1) b2))).mono ?_
    rintro e w3 ⟨rfl, b3⟩
    go_wp2_with fail
    refine (LV _).mono ?_
    rintro e w4 ⟨rfl, b4⟩
    go_wp2
    go_ret
    exact ⟨rfl, belowThen (belowThen (belowThen (b1) b2) b3) b4⟩
  · exfalso
    rcases HO.out with h | h | h | h | h | h
    · omega
    · omega
    · omega
    · rw [hva] at h; cases h
    · rw [hvb] at h; cases h
    · rw [hvc] at h; cases h

set_option maxRecDepth 100000 in
set_option maxHeartbeats 4000000 in
theorem lawLatIn (LV : Lives) (a b c : Ck) (n m k : Nat) (hn : a.length = n) (hm : b.length = m) (hk : c.length = k) (A B D : Option Addr) (e1 e2 e3 : Nat) (w : World) (ha : Rc w A e1 a) (hb : Rc w B e2 b) (hc : Rc w D e3 c) (h1 : n ≤ 40) (h2 : m ≤ 40) (h3 : k ≤ 40) (hva : vldB a = true) (hvb : vldB b = true) (hvc : vldB c = true) :
    Calls Try.prog 7 #[.slice A n e1, .slice B m e2, .slice D k e3] w (LawOk w) := by
  have HLA := Lib.hid (vldIff.1 hva)
  have HLB := Lib.hid (vldIff.1 hvb)
  have HLC := Lib.hid (vldIff.1 hvc)
  have HVA := Lib.hid hva; clear hva
  have HVB := Lib.hid hvb; clear hvb
  have HVC := Lib.hid hvc; clear hvc
  have HA := Lib.hid ha; clear ha
  have HB := Lib.hid hb; clear hb
  have HC := Lib.hid hc; clear hc
  obtain ⟨J, hJ⟩ : ∃ J, joinC a b = J := ⟨_, rfl⟩
  obtain ⟨M, hM⟩ : ∃ M, meetC a b = M := ⟨_, rfl⟩
  have lJ := lenMrgC max a b
  have lM := lenMrgC min a b
  rw [show mrgC max a b = J from hJ, hn, hm] at lJ
  rw [show mrgC min a b = M from hM, hn, hm] at lM
  obtain ⟨j, hj⟩ : ∃ j, J.length = j := ⟨_, rfl⟩
  obtain ⟨l, hl⟩ : ∃ l, M.length = l := ⟨_, rfl⟩
  rw [hj] at lJ
  rw [hl] at lM
  have HN := Lib.hid hn; clear hn
  have HM := Lib.hid hm; clear hm
  have HK := Lib.hid hk; clear hk
  have HLJ := Lib.hid hj; clear hj
  have HLM := Lib.hid hl; clear hl
  have F1 := Lib.hid (show leB a J = true by rw [← hJ]; exact latUpA HLA.out HLB.out)
  have F2 := Lib.hid (show leB b J = true by rw [← hJ]; exact latUpB HLA.out HLB.out)
  have F3 := Lib.hid (show leB M a = true by rw [← hM]; exact latDownA HLA.out HLB.out)
  have F4 := Lib.hid (show leB M b = true by rw [← hM]; exact latDownB HLA.out HLB.out)
  have HVJ := Lib.hid (show vldB J = true by rw [← hJ]; exact vldYes (vlJoin a b))
  have HVM := Lib.hid (show vldB M = true by rw [← hM]; exact vldYes (vlMeet a b))
  have HT1 := Lib.hid (show leB a c = true → leB b c = leB J c from fun h => by rw [← hJ]; exact latLub HLA.out HLB.out HLC.out h)
  have HT2 := Lib.hid (show leB c a = true → leB c b = leB c M from fun h => by rw [← hM]; exact latGlb HLA.out HLB.out HLC.out h)
  have RF := Lib.hid (latRefl HLA.out)
  have U1 := Lib.hid (show joinC a M = a by rw [← hM]; exact latAbs1 HLA.out HLB.out)
  have U2 := Lib.hid (show meetC a J = a by rw [← hJ]; exact latAbs2 HLA.out HLB.out)
  have HJ := Lib.hid hJ; clear hJ
  have HMT := Lib.hid hM; clear hM
  go_enter Try.func7, Try.ntmps7
  go_wp2_with fail
  refine (rValidB a n HN.out true HVA.out A e1 _ HA.out).mono ?_
  rintro e w1 ⟨rfl, b1⟩
  go_wp2_with fail
  refine (rValidB b m HM.out true HVB.out B e2 _ (HB.out.below (b1))).mono ?_
  rintro e w2 ⟨rfl, b2⟩
  go_wp2_with fail
  refine (rValidB c k HK.out true HVC.out D e3 _ (HC.out.below (belowThen (b1) b2))).mono ?_
  rintro e w3 ⟨rfl, b3⟩
  go_wp2_with fail
  refine ((iJoin a b n m HN.out HM.out J HJ.out (by omega) (by omega) A B e1 e2 _ (HA.out.below (belowThen (belowThen (b1) b2) b3)) (HB.out.below (belowThen (belowThen (b1) b2) b3))).mono fun _ _ h => givesR HLJ.out h).mono ?_
  rintro e w4 ⟨AJ, cJ, rfl, rJ, b4⟩
  have RJ := Lib.hid rJ; clear rJ
  go_wp2_with fail
  refine ((iMeet a b n m HN.out HM.out M HMT.out (by omega) (by omega) A B e1 e2 _ (HA.out.below (belowThen (belowThen (belowThen (b1) b2) b3) b4)) (HB.out.below (belowThen (belowThen (belowThen (b1) b2) b3) b4))).mono fun _ _ h => givesR HLM.out h).mono ?_
  rintro e w5 ⟨AM, cM, rfl, rM, b5⟩
  have RM := Lib.hid rM; clear rM
  go_wp2_with fail
  refine (iValid J j HLJ.out true HVJ.out AJ cJ _ (RJ.out.below (b5))).mono ?_
  rintro e w6 ⟨rfl, b6⟩
  go_wp2_with fail
  refine (iValid M l HLM.out true HVM.out AM cM _ (RM.out.below (b6))).mono ?_
  rintro e w7 ⟨rfl, b7⟩
  go_wp2_with fail
  refine (iLessEq a J n j HN.out HLJ.out true F1.out (by omega) (by omega) A AJ e1 cJ _ (HA.out.below (belowThen (belowThen (belowThen (belowThen (belowThen (belowThen (b1) b2) b3) b4) b5) b6) b7)) (RJ.out.below (belowThen (belowThen (b5) b6) b7))).mono ?_
  rintro e w8 ⟨rfl, b8⟩
  go_wp2_with fail
  refine (iLessEq b J m j HM.out HLJ.out true F2.out (by omega) (by omega) B AJ e2 cJ _ (HB.out.below (belowThen (belowThen (belowThen (belowThen (belowThen (belowThen (belowThen (b1) b2) b3) b4) b5) b6) b7) b8)) (RJ.out.below (belowThen (belowThen (belowThen (b5) b6) b7) b8))).mono ?_
  rintro e w9 ⟨rfl, b9⟩
  go_wp2_with fail
  refine (iLessEq M a l n HLM.out HN.out true F3.out (by omega) (by omega) AM A cM e1 _ (RM.out.below (belowThen (belowThen (belowThen (b6) b7) b8) b9)) (HA.out.below (belowThen (belowThen (belowThen (belowThen (belowThen (belowThen (belowThen (belowThen (b1) b2) b3) b4) b5) b6) b7) b8) b9))).mono ?_
  rintro e w10 ⟨rfl, b10⟩
  go_wp2_with fail
  refine (iLessEq M b l m HLM.out HM.out true F4.out (by omega) (by omega) AM B cM e2 _ (RM.out.below (belowThen (belowThen (belowThen (belowThen (b6) b7) b8) b9) b10)) (HB.out.below (belowThen (belowThen (belowThen (belowThen (belowThen (belowThen (belowThen (belowThen (belowThen (b1) b2) b3) b4) b5) b6) b7) b8) b9) b10))).mono ?_
  rintro e w11 ⟨rfl, b11⟩
  have B0 := Lib.hid (belowThen (belowThen (belowThen (belowThen (belowThen (belowThen (belowThen (belowThen (belowThen (belowThen (b1) b2) b3) b4) b5) b6) b7) b8) b9) b10) b11)
  have GA := Lib.hid (HA.out.below B0.out)
  have GB := Lib.hid (HB.out.below B0.out)
  have GC := Lib.hid (HC.out.below B0.out)
  have GJ := Lib.hid (RJ.out.below (belowThen (belowThen (belowThen (belowThen (belowThen (belowThen (b5) b6) b7) b8) b9) b10) b11))
  have GM := Lib.hid (RM.out.below (belowThen (belowThen (belowThen (belowThen (belowThen (b6) b7) b8) b9) b10) b11))
  clear b1 b2 b3 b4 b5 b6 b7 b8 b9 b10 b11
  go_upto_region 6 with (fail)
  go_cut [101] (fun s wx => s = .bool false ∧ Below w11.heap.size w11 wx)
  case first =>
    rcases hp : leB a c with _ | _
    · have P := Lib.hid hp; clear hp
      rcases hp2 : leB c a with _ | _
      · have P2 := Lib.hid hp2; clear hp2
        go_wp2_with fail
        refine (iLessEq a c n k HN.out HK.out false P.out (by omega) (by omega) A D e1 e3 _ GA.out GC.out).mono ?_
        rintro e u1 ⟨rfl, b1⟩
        go_wp2_with fail
        refine (iLessEq c a k n HK.out HN.out false P2.out (by omega) (by omega) D A e3 e1 _ (GC.out.below (b1)) (GA.out.below (b1))).mono ?_
        rintro e w2 ⟨rfl, b2⟩
        go_wp2
        go_meet
        exact ⟨rfl, belowThen (b1) b2⟩
      · have P2 := Lib.hid hp2; clear hp2
        obtain ⟨q2, hq2⟩ : ∃ q, leB c b = q := ⟨_, rfl⟩
        have Q3 := Lib.hid ((HT2.out P2.out).symm.trans hq2)
        have Q2 := Lib.hid hq2; clear hq2
        have hqq2 : (q2 != q2) = false := by simp
        go_wp2_with fail
        refine (iLessEq a c n k HN.out HK.out false P.out (by omega) (by omega) A D e1 e3 _ GA.out GC.out).mono ?_
        rintro e u1 ⟨rfl, b1⟩
        go_wp2_with fail
        refine (iLessEq c a k n HK.out HN.out true P2.out (by omega) (by omega) D A e3 e1 _ (GC.out.below (b1)) (GA.out.below (b1))).mono ?_
        rintro e w2 ⟨rfl, b2⟩
        go_wp2_with fail
        refine (iLessEq c b k m HK.out HM.out q2 Q2.out (by omega) (by omega) D B e3 e2 _ (GC.out.below (belowThen (b1) b2)) (GB.out.below (belowThen (b1) b2))).mono ?_
        rintro e w3 ⟨rfl, b3⟩
        go_wp2_with fail
        refine (iLessEq c M k l HK.out HLM.out q2 Q3.out (by omega) (by omega) D AM e3 cM _ (GC.out.below (belowThen (belowThen (b1) b2) b3)) (GM.out.below (belowThen (belowThen (b1) b2) b3))).mono ?_
        rintro e w4 ⟨rfl, b4⟩
        go_wp2
        go_meet
        exact ⟨rfl, belowThen (belowThen (belowThen (b1) b2) b3) b4⟩
    · have P := Lib.hid hp; clear hp
      rcases hp2 : leB c a with _ | _
      · have P2 := Lib.hid hp2; clear hp2
        obtain ⟨q, hq⟩ : ∃ q, leB b c = q := ⟨_, rfl⟩
        have Q1 := Lib.hid ((HT1.out P.out).symm.trans hq)
        have Q := Lib.hid hq; clear hq
        have hqq : (q != q) = false := by simp
        go_wp2_with fail
        refine (iLessEq a c n k HN.out HK.out true P.out (by omega) (by omega) A D e1 e3 _ GA.out GC.out).mono ?_
        rintro e u1 ⟨rfl, b1⟩
        go_wp2_with fail
        refine (iLessEq b c m k HM.out HK.out q Q.out (by omega) (by omega) B D e2 e3 _ (GB.out.below (b1)) (GC.out.below (b1))).mono ?_
        rintro e w2 ⟨rfl, b2⟩
        go_wp2_with fail
        refine (iLessEq J c j k HLJ.out HK.out q Q1.out (by omega) (by omega) AJ D cJ e3 _ (GJ.out.below (belowThen (b1) b2)) (GC.out.below (belowThen (b1) b2))).mono ?_
        rintro e w3 ⟨rfl, b3⟩
        go_wp2_with fail
        refine (iLessEq c a k n HK.out HN.out false P2.out (by omega) (by omega) D A e3 e1 _ (GC.out.below (belowThen (belowThen (b1) b2) b3)) (GA.out.below (belowThen (belowThen (b1) b2) b3))).mono ?_
        rintro e w4 ⟨rfl, b4⟩
        go_wp2
        go_meet
        exact ⟨rfl, belowThen (belowThen (belowThen (b1) b2) b3) b4⟩
      · have P2 := Lib.hid hp2; clear hp2
        obtain ⟨q, hq⟩ : ∃ q, leB b c = q := ⟨_, rfl⟩
        have Q1 := Lib.hid ((HT1.out P.out).symm.trans hq)
        have Q := Lib.hid hq; clear hq
        have hqq : (q != q) = false := by simp
        obtain ⟨q2, hq2⟩ : ∃ q, leB c b = q := ⟨_, rfl⟩
        have Q3 := Lib.hid ((HT2.out P2.out).symm.trans hq2)
        have Q2 := Lib.hid hq2; clear hq2
        have hqq2 : (q2 != q2) = false := by simp
        go_wp2_with fail
        refine (iLessEq a c n k HN.out HK.out true P.out (by omega) (by omega) A D e1 e3 _ GA.out GC.out).mono ?_
        rintro e u1 ⟨rfl, b1⟩
        go_wp2_with fail
        refine (iLessEq b c m k HM.out HK.out q Q.out (by omega) (by omega) B D e2 e3 _ (GB.out.below (b1)) (GC.out.below (b1))).mono ?_
        rintro e w2 ⟨rfl, b2⟩
        go_wp2_with fail
        refine (iLessEq J c j k HLJ.out HK.out q Q1.out (by omega) (by omega) AJ D cJ e3 _ (GJ.out.below (belowThen (b1) b2)) (GC.out.below (belowThen (b1) b2))).mono ?_
        rintro e w3 ⟨rfl, b3⟩
        go_wp2_with fail
        refine (iLessEq c a k n HK.out HN.out true P2.out (by omega) (by omega) D A e3 e1 _ (GC.out.below (belowThen (belowThen (b1) b2) b3)) (GA.out.below (belowThen (belowThen (b1) b2) b3))).mono ?_
        rintro e w4 ⟨rfl, b4⟩
        go_wp2_with fail
        refine (iLessEq c b k m HK.out HM.out q2 Q2.out (by omega) (by omega) D B e3 e2 _ (GC.out.below (belowThen (belowThen (belowThen (b1) b2) b3) b4)) (GB.out.below (belowThen (belowThen (belowThen (b1) b2) b3) b4))).mono ?_
        rintro e w5 ⟨rfl, b5⟩
        go_wp2_with fail
        refine (iLessEq c M k l HK.out HLM.out q2 Q3.out (by omega) (by omega) D AM e3 cM _ (GC.out.below (belowThen (belowThen (belowThen (belowThen (b1) b2) b3) b4) b5)) (GM.out.below (belowThen (belowThen (belowThen (belowThen (b1) b2) b3) b4) b5))).mono ?_
        rintro e w6 ⟨rfl, b6⟩
        go_wp2
        go_meet
        exact ⟨rfl, belowThen (belowThen (belowThen (belowThen (belowThen (b1) b2) b3) b4) b5) b6⟩
  case rest =>
    obtain ⟨rfl, b6⟩ := hcut
    have B6 := Lib.hid b6; clear b6
    have KA := Lib.hid (GA.out.below B6.out)
    have KB := Lib.hid (GB.out.below B6.out)
    have KC := Lib.hid (GC.out.below B6.out)
    have KJ := Lib.hid (GJ.out.below B6.out)
    have KM := Lib.hid (GM.out.below B6.out)
    obtain ⟨w6, hw6⟩ : ∃ w6, w6 = wc := ⟨_, rfl⟩
    subst hw6
    go_upto_region 8 with (fail)
    go_cut [138] (fun s wx => s = .bool false ∧ Below w6.heap.size w6 wx)
    case first =>
      rcases hs8 : leB a b with _ | _
      · have S := Lib.hid hs8; clear hs8
        go_wp2_with fail
        refine (iLessEq a b n m HN.out HM.out false S.out (by omega) (by omega) A B e1 e2 _ KA.out KB.out).mono ?_
        rintro e w1 ⟨rfl, b1⟩
        go_wp2
        go_meet
        exact ⟨rfl, b1⟩
      · have S := Lib.hid hs8; clear hs8
        have eJ : J = b := HJ.out.symm.trans (latUpEq HLA.out HLB.out S.out)
        have eM : M = a := HMT.out.symm.trans (latDownEq HLA.out HLB.out S.out)
        have E1 := Lib.hid (show b.length = j by rw [← eJ]; exact HLJ.out)
        have E2 := Lib.hid (show a.length = l by rw [← eM]; exact HLM.out)
        have KJ' := Lib.hid (show Rc w6 AJ cJ b by rw [← eJ]; exact KJ.out)
        have KM' := Lib.hid (show Rc w6 AM cM a by rw [← eM]; exact KM.out)
        clear eJ eM
        rcases hq8 : leB b c with _ | _
        · have Q := Lib.hid hq8; clear hq8
          rcases ht8 : leB b a with _ | _
          · have TT := Lib.hid ht8; clear ht8
            go_wp2_with fail
            refine (iLessEq a b n m HN.out HM.out true S.out (by omega) (by omega) A B e1 e2 _ KA.out KB.out).mono ?_
            rintro e w1 ⟨rfl, b1⟩
            go_wp2_with fail
            refine (sameOwn b j m E1.out HM.out AJ B cJ e2 _ (KJ'.out.below (b1)) (KB.out.below (b1))).mono ?_
            rintro e w2 ⟨rfl, b2⟩
            go_wp2_with fail
            refine (sameOwn a l n E2.out HN.out AM A cM e1 _ (KM'.out.below (belowThen (b1) b2)) (KA.out.below (belowThen (b1) b2))).mono ?_
            rintro e w3 ⟨rfl, b3⟩
            go_wp2_with fail
            refine (iLessEq b c m k HM.out HK.out false Q.out (by omega) (by omega) B D e2 e3 _ (KB.out.below (belowThen (belowThen (b1) b2) b3)) (KC.out.below (belowThen (belowThen (b1) b2) b3))).mono ?_
            rintro e w4 ⟨rfl, b4⟩
            go_wp2_with fail
            refine (iLessEq b a m n HM.out HN.out false TT.out (by omega) (by omega) B A e2 e1 _ (KB.out.below (belowThen (belowThen (belowThen (b1) b2) b3) b4)) (KA.out.below (belowThen (belowThen (belowThen (b1) b2) b3) b4))).mono ?_
            rintro e w5 ⟨rfl, b5⟩
            go_wp2
            go_meet
            exact ⟨rfl, belowThen (belowThen (belowThen (belowThen (b1) b2) b3) b4) b5⟩
          · have TT := Lib.hid ht8; clear ht8
            have e3 : a = b := latAnti HLA.out HLB.out S.out TT.out
            have E3 := Lib.hid (show a.length = m by rw [e3]; exact HM.out)
            have KB' := Lib.hid (show Rc w6 B e2 a by rw [e3]; exact KB.out)
            clear e3
            go_wp2_with fail
            refine (iLessEq a b n m HN.out HM.out true S.out (by omega) (by omega) A B e1 e2 _ KA.out KB.out).mono ?_
            rintro e w1 ⟨rfl, b1⟩
            go_wp2_with fail
            refine (sameOwn b j m E1.out HM.out AJ B cJ e2 _ (KJ'.out.below (b1)) (KB.out.below (b1))).mono ?_
            rintro e w2 ⟨rfl, b2⟩
            go_wp2_with fail
            refine (sameOwn a l n E2.out HN.out AM A cM e1 _ (KM'.out.below (belowThen (b1) b2)) (KA.out.below (belowThen (b1) b2))).mono ?_
            rintro e w3 ⟨rfl, b3⟩
            go_wp2_with fail
            refine (iLessEq b c m k HM.out HK.out false Q.out (by omega) (by omega) B D e2 e3 _ (KB.out.below (belowThen (belowThen (b1) b2) b3)) (KC.out.below (belowThen (belowThen (b1) b2) b3))).mono ?_
            rintro e w4 ⟨rfl, b4⟩
            go_wp2_with fail
            refine (iLessEq b a m n HM.out HN.out true TT.out (by omega) (by omega) B A e2 e1 _ (KB.out.below (belowThen (belowThen (belowThen (b1) b2) b3) b4)) (KA.out.below (belowThen (belowThen (belowThen (b1) b2) b3) b4))).mono ?_
            rintro e w5 ⟨rfl, b5⟩
            go_wp2_with fail
            refine (sameOwn a n m HN.out E3.out A B e1 e2 _ (KA.out.below (belowThen (belowThen (belowThen (belowThen (b1) b2) b3) b4) b5)) (KB'.out.below (belowThen (belowThen (belowThen (belowThen (b1) b2) b3) b4) b5))).mono ?_
            rintro e w6 ⟨rfl, b6⟩
            go_wp2
            go_meet
            exact ⟨rfl, belowThen (belowThen (belowThen (belowThen (belowThen (b1) b2) b3) b4) b5) b6⟩
        · have Q := Lib.hid hq8; clear hq8
          have TR := Lib.hid (latTrans HLA.out HLB.out HLC.out S.out Q.out)
          rcases ht8 : leB b a with _ | _
          · have TT := Lib.hid ht8; clear ht8
            go_wp2_with fail
            refine (iLessEq a b n m HN.out HM.out true S.out (by omega) (by omega) A B e1 e2 _ KA.out KB.out).mono ?_
            rintro e w1 ⟨rfl, b1⟩
            go_wp2_with fail
            refine (sameOwn b j m E1.out HM.out AJ B cJ e2 _ (KJ'.out.below (b1)) (KB.out.below (b1))).mono ?_
            rintro e w2 ⟨rfl, b2⟩
            go_wp2_with fail
            refine (sameOwn a l n E2.out HN.out AM A cM e1 _ (KM'.out.below (belowThen (b1) b2)) (KA.out.below (belowThen (b1) b2))).mono ?_
            rintro e w3 ⟨rfl, b3⟩
            go_wp2_with fail
            refine (iLessEq b c m k HM.out HK.out true Q.out (by omega) (by omega) B D e2 e3 _ (KB.out.below (belowThen (belowThen (b1) b2) b3)) (KC.out.below (belowThen (belowThen (b1) b2) b3))).mono ?_
            rintro e w4 ⟨rfl, b4⟩
            go_wp2_with fail
            refine (iLessEq a c n k HN.out HK.out true TR.out (by omega) (by omega) A D e1 e3 _ (KA.out.below (belowThen (belowThen (belowThen (b1) b2) b3) b4)) (KC.out.below (belowThen (belowThen (belowThen (b1) b2) b3) b4))).mono ?_
            rintro e w5 ⟨rfl, b5⟩
            go_wp2_with fail
            refine (iLessEq b a m n HM.out HN.out false TT.out (by omega) (by omega) B A e2 e1 _ (KB.out.below (belowThen (belowThen (belowThen (belowThen (b1) b2) b3) b4) b5)) (KA.out.below (belowThen (belowThen (belowThen (belowThen (b1) b2) b3) b4) b5))).mono ?_
            rintro e w6 ⟨rfl, b6⟩
            go_wp2
            go_meet
            exact ⟨rfl, belowThen (belowThen (belowThen (belowThen (belowThen (b1) b2) b3) b4) b5) b6⟩
          · have TT := Lib.hid ht8; clear ht8
            have e3 : a = b := latAnti HLA.out HLB.out S.out TT.out
            have E3 := Lib.hid (show a.length = m by rw [e3]; exact HM.out)
            have KB' := Lib.hid (show Rc w6 B e2 a by rw [e3]; exact KB.out)
            clear e3
            go_wp2_with fail
            refine (iLessEq a b n m HN.out HM.out true S.out (by omega) (by omega) A B e1 e2 _ KA.out KB.out).mono ?_
            rintro e w1 ⟨rfl, b1⟩
            go_wp2_with fail
            refine (sameOwn b j m E1.out HM.out AJ B cJ e2 _ (KJ'.out.below (b1)) (KB.out.below (b1))).mono ?_
            rintro e w2 ⟨rfl, b2⟩
            go_wp2_with fail
            refine (sameOwn a l n E2.out HN.out AM A cM e1 _ (KM'.out.below (belowThen (b1) b2)) (KA.out.below (belowThen (b1) b2))).mono ?_
            rintro e w3 ⟨rfl, b3⟩
            go_wp2_with fail
            refine (iLessEq b c m k HM.out HK.out true Q.out (by omega) (by omega) B D e2 e3 _ (KB.out.below (belowThen (belowThen (b1) b2) b3)) (KC.out.below (belowThen (belowThen (b1) b2) b3))).mono ?_
            rintro e w4 ⟨rfl, b4⟩
            go_wp2_with fail
            refine (iLessEq a c n k HN.out HK.out true TR.out (by omega) (by omega) A D e1 e3 _ (KA.out.below (belowThen (belowThen (belowThen (b1) b2) b3) b4)) (KC.out.below (belowThen (belowThen (belowThen (b1) b2) b3) b4))).mono ?_
            rintro e w5 ⟨rfl, b5⟩
            go_wp2_with fail
            refine (iLessEq b a m n HM.out HN.out true TT.out (by omega) (by omega) B A e2 e1 _ (KB.out.below (belowThen (belowThen (belowThen (belowThen (b1) b2) b3) b4) b5)) (KA.out.below (belowThen (belowThen (belowThen (belowThen (b1) b2) b3) b4) b5))).mono ?_
            rintro e w6 ⟨rfl, b6⟩
            go_wp2_with fail
            refine (sameOwn a n m HN.out E3.out A B e1 e2 _ (KA.out.below (belowThen (belowThen (belowThen (belowThen (belowThen (b1) b2) b3) b4) b5) b6)) (KB'.out.below (belowThen (belowThen (belowThen (belowThen (belowThen (b1) b2) b3) b4) b5) b6))).mono ?_
            rintro e w7 ⟨rfl, b7⟩
            go_wp2
            go_meet
            exact ⟨rfl, belowThen (belowThen (belowThen (belowThen (belowThen (belowThen (b1) b2) b3) b4) b5) b6) b7⟩
    case rest =>
      obtain ⟨rfl, b8⟩ := hcut
      have B8 := Lib.hid b8; clear b8
      have XA := Lib.hid (KA.out.below B8.out)
      have XB := Lib.hid (KB.out.below B8.out)
      have XJ := Lib.hid (KJ.out.below B8.out)
      have XM := Lib.hid (KM.out.below B8.out)
      go_wp2_with fail
      refine (iLessEq a a n n HN.out HN.out true RF.out (by omega) (by omega) A A e1 e1 _ XA.out XA.out).mono ?_
      rintro e w1 ⟨rfl, b1⟩
      go_wp2_with fail
      refine ((iJoin a M n l HN.out HLM.out a U1.out (by omega) (by omega) A AM e1 cM _ (XA.out.below (b1)) (XM.out.below (b1))).mono fun _ _ h => givesR HN.out h).mono ?_
      rintro e w2 ⟨AU, cU, rfl, rU, b2⟩
      have RU := Lib.hid rU; clear rU
      go_wp2_with fail
      refine (sameOwn a n n HN.out HN.out AU A cU e1 _ RU.out (XA.out.below (belowThen (b1) b2))).mono ?_
      rintro e w3 ⟨rfl, b3⟩
      go_wp2_with fail
      refine ((iMeet a J n j HN.out HLJ.out a U2.out (by omega) (by omega) A AJ e1 cJ _ (XA.out.below (belowThen (belowThen (b1) b2) b3)) (XJ.out.below (belowThen (belowThen (b1) b2) b3))).mono fun _ _ h => givesR HN.out h).mono ?_
      rintro e w4 ⟨AV, cV, rfl, rV, b4⟩
      have RV := Lib.hid rV; clear rV
      go_wp2_with fail
      refine (sameOwn a n n HN.out HN.out AV A cV e1 _ RV.out (XA.out.below (belowThen (belowThen (belowThen (b1) b2) b3) b4))).mono ?_
      rintro e w5 ⟨rfl, b5⟩
      go_wp2_with fail
      refine (LV _).mono ?_
      rintro e w6 ⟨rfl, b6⟩
      go_wp2
      go_ret
      exact ⟨rfl, belowThen B0.out (belowThen B6.out (belowThen B8.out (belowThen (belowThen (belowThen (belowThen (belowThen (b1) b2) b3) b4) b5) b6)))⟩
theorem lawLattice (LV : Lives) (a b c : Ck) (n m k : Nat) (hn : a.length = n) (hm : b.length = m) (hk : c.length = k) (A B D : Option Addr) (e1 e2 e3 : Nat) (w : World) (ha : Rc w A e1 a) (hb : Rc w B e2 b) (hc : Rc w D e3 c) : Calls Try.prog 7 #[.slice A n e1, .slice B m e2, .slice D k e3] w (LawOk w) := by
  by_cases h : 40 < n ∨ 40 < m ∨ 40 < k ∨ vldB a = false ∨ vldB b = false ∨ vldB c = false
  · exact lawLatOut LV a b c n m k hn hm hk A B D e1 e2 e3 w ha hb hc h
  · simp only [not_or, Bool.not_eq_false] at h
    obtain ⟨h1, h2, h3, h4, h5, h6⟩ := h
    exact lawLatIn LV a b c n m k hn hm hk A B D e1 e2 e3 w ha hb hc (by omega) (by omega) (by omega) h4 h5 h6
end Go.Proofs.Ytdppccipajfamaa
