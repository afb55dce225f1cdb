/-
  The laws IntsetEdit, IntsetCombine and IntsetAlgebra return true for every slice and integer; nothing that was in memory changes.
-/
import Derived.Test.YthfllfdgndaddaaLawA
namespace Go.Proofs.Ythfllfdgndaddaa
open Go.RowKit

theorem lenA (a b : List Int) {n k : Nat} (ha : a.length = n) (hb : b.length = k) : (uni a b).length ≤ n + k := by have := lenUni a b; omega
theorem lenB (a b : List Int) {n : Nat} (ha : a.length = n) : (int' a b).length ≤ n := by have := lenInt a b; omega
theorem lenC (a b : List Int) {n : Nat} (ha : a.length = n) : (min' a b).length ≤ n := by have := lenMin a b; omega
theorem lenD (a : List Int) {n : Nat} (ha : a.length = n) : (mk a).length ≤ n := by have := lenMk a; omega
theorem dist1 (a b c : List Int) : uni (int' a b) (int' a c) = int' a (uni b c) := srtExt (srtMk _) (srtMk _) fun z => by simp only [memUni, memInt]; grind
theorem dist2 (a b c : List Int) : int' (uni a b) (uni a c) = uni a (int' b c) := srtExt (srtMk _) (srtMk _) fun z => by simp only [memUni, memInt]; grind
theorem assocU (a b c : List Int) : uni (uni a b) c = uni a (uni b c) := srtExt (srtMk _) (srtMk _) fun z => by simp only [memUni]; grind
theorem commU (a b : List Int) : uni b a = uni a b := srtExt (srtMk _) (srtMk _) fun z => by simp only [memUni]; grind
theorem commI (a b : List Int) : int' b a = int' a b := srtExt (srtMk _) (srtMk _) fun z => by simp only [memInt]; grind
theorem idemI (a : List Int) : int' a a = mk a := srtExt (srtMk _) (srtMk _) fun z => by simp only [memInt, memMk]; grind
theorem idemU (a : List Int) : uni a a = mk a := srtExt (srtMk _) (srtMk _) fun z => by simp only [memUni, memMk]; grind
theorem partsNo (a b : List Int) : int' (min' a b) (int' a b) = [] := srtExt (srtMk _) srtNil fun z => by
  rw [memInt, memMin, memInt]
  constructor
  · rintro ⟨⟨_, h2⟩, _, h3⟩; exact absurd h3 h2
  · intro h; cases h
theorem partsAll (a b : List Int) : uni (min' a b) (int' a b) = mk a := srtExt (srtMk _) (srtMk _) fun z => by simp only [memUni, memInt, memMin, memMk]; grind
theorem subEq (a b : List Int) : eqB (uni a b) (mk b) = subB a b := by
  unfold eqB subB
  rw [decide_eq_decide]
  constructor
  · intro h x hx
    have : x ∈ uni a b := memUni.2 (Or.inl hx)
    rw [h] at this
    exact memMk.1 this
  · intro h
    exact srtExt (srtMk _) (srtMk _) fun z => by
      rw [memUni, memMk]
      constructor
      · rintro (h' | h')
        · exact h z h'
        · exact h'
      · exact Or.inr
theorem rIntsN (l m : List Int) (n k : Nat) (hn : l.length = n) (hk : m.length = k) (r : Bool) (hr : eqB l m = r) (A B : Option Addr) (c d : Nat) (w : World) (ha : Rd w A c l) (hb : Rd w B d m) :
    Calls Try.prog 10 #[.slice A n c, .slice B k d] w fun e w' => e = .returned (.bool r) ∧ Below w.heap.size w w' := by
  subst hn; subst hk
  exact (rInts l m r hr A B c d w ha hb).mono fun e w' ⟨h1, q, h2⟩ => ⟨h1, by rw [h2]; exact belowN w q⟩

set_option maxHeartbeats 4000000 in
theorem lawEdit (l : List Int) (x : Int) (n : Nat) (hn : l.length = n) (A : Option Addr) (c : Nat) (w : World) (ha : Rd w A c l) :
    Calls Try.prog 4 #[.slice A n c, .int .i64 x] w (LawOk w) := by
  have HA := Lib.hid ha; clear ha
  have HN := Lib.hid hn; clear hn
  by_cases hs : n ≤ 300
  · have k0 := hs
    obtain ⟨s, hs⟩ : ∃ s, uni l [x] = s := ⟨_, rfl⟩
    obtain ⟨ns, hns⟩ : ∃ k, s.length = k := ⟨_, rfl⟩
    have ks : ns ≤ 301 := by rw [← hns, ← hs]; exact Nat.le_trans (lenA l [x] HN.out (show [x].length = 1 from rfl)) (by omega)
    have Hs := Lib.hid hs; clear hs
    have Ns := Lib.hid hns; clear hns
    obtain ⟨t, ht⟩ : ∃ t, min' l [x] = t := ⟨_, rfl⟩
    obtain ⟨nt, hnt⟩ : ∃ k, t.length = k := ⟨_, rfl⟩
    have kt : nt ≤ 300 := by rw [← hnt, ← ht]; exact Nat.le_trans (lenC l [x] HN.out) hs
    have Ht := Lib.hid ht; clear ht
    have Nt := Lib.hid hnt; clear hnt
    go_enter Try.func4, Try.ntmps4
    go_wp2_with fail
    refine (awakeOk _).mono ?_
    rintro e w1 ⟨rfl, b1⟩
    go_wp2_with fail
    refine (iAdd l x n HN.out s Hs.out (by omega) A c _ (Rd.below HA.out (b1))).mono ?_
    rintro e w2 ⟨As1, cs1, rfl, rs1, b2⟩
    rw [Ns.out]
    go_wp2_with fail
    refine (rAddN l x n HN.out s Hs.out (by omega) A c _ (Rd.below HA.out (belowThen b1 (b2)))).mono ?_
    rintro e w3 ⟨As2, cs2, rfl, rs2, b3⟩
    rw [Ns.out]
    go_wp2_with fail
    refine (intsEq s ns ns Ns.out Ns.out As1 As2 cs1 cs2 _ (Rd.below rs1 (b3)) rs2).mono ?_
    rintro e w4 ⟨rfl, b4⟩
    go_wp2_with fail
    refine (iRemove l x n HN.out t Ht.out (by omega) A c _ (Rd.below HA.out (belowThen b1 (belowThen b2 (belowThen b3 (b4)))))).mono ?_
    rintro e w5 ⟨At1, ct1, rfl, rt1, b5⟩
    rw [Nt.out]
    go_wp2_with fail
    refine (rRemoveN l x n HN.out t Ht.out (by omega) A c _ (Rd.below HA.out (belowThen b1 (belowThen b2 (belowThen b3 (belowThen b4 (b5))))))).mono ?_
    rintro e w6 ⟨At2, ct2, rfl, rt2, b6⟩
    rw [Nt.out]
    go_wp2_with fail
    refine (intsEq t nt nt Nt.out Nt.out At1 At2 ct1 ct2 _ (Rd.below rt1 (b6)) rt2).mono ?_
    rintro e w7 ⟨rfl, b7⟩
    go_wp2
    go_ret
    exact ⟨rfl, belowThen b1 (belowThen b2 (belowThen b3 (belowThen b4 (belowThen b5 (belowThen b6 (b7))))))⟩
  · go_enter Try.func4, Try.ntmps4
    go_wp2_with fail
    refine (awakeOk _).mono ?_
    rintro e w1 ⟨rfl, b1⟩
    go_wp2
    go_ret
    exact ⟨rfl, b1⟩

set_option maxHeartbeats 4000000 in
theorem lawCombine (l m : List Int) (n k : Nat) (hn : l.length = n) (hk : m.length = k) (A B : Option Addr) (c d : Nat) (w : World) (ha : Rd w A c l) (hb : Rd w B d m) :
    Calls Try.prog 5 #[.slice A n c, .slice B k d] w (LawOk w) := by
  have HA := Lib.hid ha; clear ha
  have HB := Lib.hid hb; clear hb
  have HN := Lib.hid hn; clear hn
  have HK := Lib.hid hk; clear hk
  by_cases hs : n ≤ 200
  · by_cases hs' : k ≤ 200
    · have k0 := hs
      obtain ⟨s, hs⟩ : ∃ s, uni l m = s := ⟨_, rfl⟩
      obtain ⟨ns, hns⟩ : ∃ k, s.length = k := ⟨_, rfl⟩
      have ks : ns ≤ 400 := by rw [← hns, ← hs]; exact Nat.le_trans (lenA l m HN.out HK.out) (by omega)
      have Hs := Lib.hid hs; clear hs
      have Ns := Lib.hid hns; clear hns
      obtain ⟨t, ht⟩ : ∃ t, int' l m = t := ⟨_, rfl⟩
      obtain ⟨nt, hnt⟩ : ∃ k, t.length = k := ⟨_, rfl⟩
      have kt : nt ≤ 200 := by rw [← hnt, ← ht]; exact Nat.le_trans (lenB l m HN.out) hs
      have Ht := Lib.hid ht; clear ht
      have Nt := Lib.hid hnt; clear hnt
      obtain ⟨u, hu⟩ : ∃ u, min' l m = u := ⟨_, rfl⟩
      obtain ⟨nu, hnu⟩ : ∃ k, u.length = k := ⟨_, rfl⟩
      have ku : nu ≤ 200 := by rw [← hnu, ← hu]; exact Nat.le_trans (lenC l m HN.out) hs
      have Hu := Lib.hid hu; clear hu
      have Nu := Lib.hid hnu; clear hnu
      obtain ⟨q, hq⟩ : ∃ q, subB l m = q := ⟨_, rfl⟩
      have HQ := Lib.hid hq; clear hq
      go_enter Try.func5, Try.ntmps5
      go_wp2_with fail
      refine (awakeOk _).mono ?_
      rintro e w1 ⟨rfl, b1⟩
      go_wp2_with fail
      refine (iUnion l m  n k HN.out HK.out s Hs.out (by omega) (by omega) A B c d _ (Rd.below HA.out (b1)) (Rd.below HB.out (b1))).mono ?_
      rintro e w2 ⟨As1, cs1, rfl, rs1, b2⟩
      rw [Ns.out]
      go_wp2_with fail
      refine (rUnionN l m  n k HN.out HK.out s Hs.out (by omega) (by omega) A B c d _ (Rd.below HA.out (belowThen b1 (b2))) (Rd.below HB.out (belowThen b1 (b2)))).mono ?_
      rintro e w3 ⟨As2, cs2, rfl, rs2, b3⟩
      rw [Ns.out]
      go_wp2_with fail
      refine (intsEq s ns ns Ns.out Ns.out As1 As2 cs1 cs2 _ (Rd.below rs1 (b3)) rs2).mono ?_
      rintro e w4 ⟨rfl, b4⟩
      go_wp2_with fail
      refine (iIntersect l m  n k HN.out HK.out t Ht.out (by omega) (by omega) A B c d _ (Rd.below HA.out (belowThen b1 (belowThen b2 (belowThen b3 (b4))))) (Rd.below HB.out (belowThen b1 (belowThen b2 (belowThen b3 (b4)))))).mono ?_
      rintro e w5 ⟨At1, ct1, rfl, rt1, b5⟩
      rw [Nt.out]
      go_wp2_with fail
      refine (rIntersectN l m  n k HN.out HK.out t Ht.out (by omega) A B c d _ (Rd.below HA.out (belowThen b1 (belowThen b2 (belowThen b3 (belowThen b4 (b5)))))) (Rd.below HB.out (belowThen b1 (belowThen b2 (belowThen b3 (belowThen b4 (b5))))))).mono ?_
      rintro e w6 ⟨At2, ct2, rfl, rt2, b6⟩
      rw [Nt.out]
      go_wp2_with fail
      refine (intsEq t nt nt Nt.out Nt.out At1 At2 ct1 ct2 _ (Rd.below rt1 (b6)) rt2).mono ?_
      rintro e w7 ⟨rfl, b7⟩
      go_wp2_with fail
      refine (iMinus l m  n k HN.out HK.out u Hu.out (by omega) (by omega) A B c d _ (Rd.below HA.out (belowThen b1 (belowThen b2 (belowThen b3 (belowThen b4 (belowThen b5 (belowThen b6 (b7)))))))) (Rd.below HB.out (belowThen b1 (belowThen b2 (belowThen b3 (belowThen b4 (belowThen b5 (belowThen b6 (b7))))))))).mono ?_
      rintro e w8 ⟨Au1, cu1, rfl, ru1, b8⟩
      rw [Nu.out]
      go_wp2_with fail
      refine (rMinusN l m  n k HN.out HK.out u Hu.out (by omega) A B c d _ (Rd.below HA.out (belowThen b1 (belowThen b2 (belowThen b3 (belowThen b4 (belowThen b5 (belowThen b6 (belowThen b7 (b8))))))))) (Rd.below HB.out (belowThen b1 (belowThen b2 (belowThen b3 (belowThen b4 (belowThen b5 (belowThen b6 (belowThen b7 (b8)))))))))).mono ?_
      rintro e w9 ⟨Au2, cu2, rfl, ru2, b9⟩
      rw [Nu.out]
      go_wp2_with fail
      refine (intsEq u nu nu Nu.out Nu.out Au1 Au2 cu1 cu2 _ (Rd.below ru1 (b9)) ru2).mono ?_
      rintro e w10 ⟨rfl, b10⟩
      go_wp2_with fail
      refine (iSubset l m n k HN.out HK.out q HQ.out (by omega) (by omega) A B c d _ (Rd.below HA.out (belowThen b1 (belowThen b2 (belowThen b3 (belowThen b4 (belowThen b5 (belowThen b6 (belowThen b7 (belowThen b8 (belowThen b9 (b10))))))))))) (Rd.below HB.out (belowThen b1 (belowThen b2 (belowThen b3 (belowThen b4 (belowThen b5 (belowThen b6 (belowThen b7 (belowThen b8 (belowThen b9 (b10)))))))))))).mono ?_
      rintro e w11 ⟨rfl, b11⟩
      go_wp2_with fail
      refine (rSubsetN l m n k HN.out HK.out q HQ.out A B c d _ (Rd.below HA.out (belowThen b1 (belowThen b2 (belowThen b3 (belowThen b4 (belowThen b5 (belowThen b6 (belowThen b7 (belowThen b8 (belowThen b9 (belowThen b10 (b11)))))))))))) (Rd.below HB.out (belowThen b1 (belowThen b2 (belowThen b3 (belowThen b4 (belowThen b5 (belowThen b6 (belowThen b7 (belowThen b8 (belowThen b9 (belowThen b10 (b11))))))))))))).mono ?_
      rintro e w' ⟨rfl, rfl⟩
      go_wp2
      go_ret
      exact ⟨by simp, belowThen b1 (belowThen b2 (belowThen b3 (belowThen b4 (belowThen b5 (belowThen b6 (belowThen b7 (belowThen b8 (belowThen b9 (belowThen b10 (b11))))))))))⟩
    · go_enter Try.func5, Try.ntmps5
      go_wp2_with fail
      refine (awakeOk _).mono ?_
      rintro e w1 ⟨rfl, b1⟩
      go_wp2
      go_ret
      exact ⟨rfl, b1⟩
  · go_enter Try.func5, Try.ntmps5
    go_wp2_with fail
    refine (awakeOk _).mono ?_
    rintro e w1 ⟨rfl, b1⟩
    go_wp2
    go_ret
    exact ⟨rfl, b1⟩

set_option maxHeartbeats 8000000 in
theorem lawDist (a b c : List Int) (n k m : Nat) (hn : a.length = n) (hk : b.length = k) (hm : c.length = m) (hs1 : n ≤ 100) (hs2 : k ≤ 100) (hs3 : m ≤ 100) (A B C : Option Addr) (ca cb cc : Nat) (w : World) (ha : Rd w A ca a) (hb : Rd w B cb b) (hc : Rd w C cc c) :
    Calls Try.prog 32 #[.slice A n ca, .slice B k cb, .slice C m cc] w (LawOk w) := by
  have HA := Lib.hid ha; clear ha
  have HB := Lib.hid hb; clear hb
  have HC := Lib.hid hc; clear hc
  have HN := Lib.hid hn; clear hn
  have HK := Lib.hid hk; clear hk
  have HM := Lib.hid hm; clear hm
  obtain ⟨ubc, hubc⟩ : ∃ ubc, uni b c = ubc := ⟨_, rfl⟩
  obtain ⟨nubc, hnubc⟩ : ∃ k, ubc.length = k := ⟨_, rfl⟩
  have kubc : nubc ≤ 200 := by rw [← hnubc, ← hubc]; exact Nat.le_trans (lenA b c HK.out HM.out) (by omega)
  have Hubc := Lib.hid hubc; clear hubc
  have Nubc := Lib.hid hnubc; clear hnubc
  obtain ⟨t1, ht1⟩ : ∃ t1, int' a ubc = t1 := ⟨_, rfl⟩
  obtain ⟨nt1, hnt1⟩ : ∃ k, t1.length = k := ⟨_, rfl⟩
  have kt1 : nt1 ≤ 100 := by rw [← hnt1, ← ht1]; exact Nat.le_trans (lenB a ubc HN.out) (by omega)
  have Ht1 := Lib.hid ht1; clear ht1
  have Nt1 := Lib.hid hnt1; clear hnt1
  obtain ⟨iab, hiab⟩ : ∃ iab, int' a b = iab := ⟨_, rfl⟩
  obtain ⟨niab, hniab⟩ : ∃ k, iab.length = k := ⟨_, rfl⟩
  have kiab : niab ≤ 100 := by rw [← hniab, ← hiab]; exact Nat.le_trans (lenB a b HN.out) (by omega)
  have Hiab := Lib.hid hiab; clear hiab
  have Niab := Lib.hid hniab; clear hniab
  obtain ⟨iac, hiac⟩ : ∃ iac, int' a c = iac := ⟨_, rfl⟩
  obtain ⟨niac, hniac⟩ : ∃ k, iac.length = k := ⟨_, rfl⟩
  have kiac : niac ≤ 100 := by rw [← hniac, ← hiac]; exact Nat.le_trans (lenB a c HN.out) (by omega)
  have Hiac := Lib.hid hiac; clear hiac
  have Niac := Lib.hid hniac; clear hniac
  obtain ⟨ibc, hibc⟩ : ∃ ibc, int' b c = ibc := ⟨_, rfl⟩
  obtain ⟨nibc, hnibc⟩ : ∃ k, ibc.length = k := ⟨_, rfl⟩
  have kibc : nibc ≤ 100 := by rw [← hnibc, ← hibc]; exact Nat.le_trans (lenB b c HK.out) (by omega)
  have Hibc := Lib.hid hibc; clear hibc
  have Nibc := Lib.hid hnibc; clear hnibc
  obtain ⟨t2, ht2⟩ : ∃ t2, uni a ibc = t2 := ⟨_, rfl⟩
  obtain ⟨nt2, hnt2⟩ : ∃ k, t2.length = k := ⟨_, rfl⟩
  have kt2 : nt2 ≤ 200 := by rw [← hnt2, ← ht2]; exact Nat.le_trans (lenA a ibc HN.out Nibc.out) (by omega)
  have Ht2 := Lib.hid ht2; clear ht2
  have Nt2 := Lib.hid hnt2; clear hnt2
  obtain ⟨uab, huab⟩ : ∃ uab, uni a b = uab := ⟨_, rfl⟩
  obtain ⟨nuab, hnuab⟩ : ∃ k, uab.length = k := ⟨_, rfl⟩
  have kuab : nuab ≤ 200 := by rw [← hnuab, ← huab]; exact Nat.le_trans (lenA a b HN.out HK.out) (by omega)
  have Huab := Lib.hid huab; clear huab
  have Nuab := Lib.hid hnuab; clear hnuab
  obtain ⟨uac, huac⟩ : ∃ uac, uni a c = uac := ⟨_, rfl⟩
  obtain ⟨nuac, hnuac⟩ : ∃ k, uac.length = k := ⟨_, rfl⟩
  have kuac : nuac ≤ 200 := by rw [← hnuac, ← huac]; exact Nat.le_trans (lenA a c HN.out HM.out) (by omega)
  have Huac := Lib.hid huac; clear huac
  have Nuac := Lib.hid hnuac; clear hnuac
  obtain ⟨t3, ht3⟩ : ∃ t3, uni a ubc = t3 := ⟨_, rfl⟩
  obtain ⟨nt3, hnt3⟩ : ∃ k, t3.length = k := ⟨_, rfl⟩
  have kt3 : nt3 ≤ 300 := by rw [← hnt3, ← ht3]; exact Nat.le_trans (lenA a ubc HN.out Nubc.out) (by omega)
  have Ht3 := Lib.hid ht3; clear ht3
  have Nt3 := Lib.hid hnt3; clear hnt3
  obtain ⟨ma, hma⟩ : ∃ ma, mk a = ma := ⟨_, rfl⟩
  obtain ⟨nma, hnma⟩ : ∃ k, ma.length = k := ⟨_, rfl⟩
  have kma : nma ≤ 100 := by rw [← hnma, ← hma]; exact Nat.le_trans (lenD a HN.out) (by omega)
  have Hma := Lib.hid hma; clear hma
  have Nma := Lib.hid hnma; clear hnma
  have E1 := Lib.hid (show uni iab iac = t1 by rw [← Hiab.out, ← Hiac.out, dist1, Hubc.out, Ht1.out])
  have E2 := Lib.hid (show int' uab uac = t2 by rw [← Huab.out, ← Huac.out, dist2, Hibc.out, Ht2.out])
  have E3 := Lib.hid (show uni uab c = t3 by rw [← Huab.out, assocU, Hubc.out, Ht3.out])
  have E4 := Lib.hid (show uni b a = uab by rw [commU, Huab.out])
  have E5 := Lib.hid (show int' b a = iab by rw [commI, Hiab.out])
  have E6 := Lib.hid (show int' a a = ma by rw [idemI, Hma.out])
  have E7 := Lib.hid (show uni a a = ma by rw [idemU, Hma.out])
  go_enter Try.func32, Try.ntmps32
  go_wp2_with fail
  refine (iUnion b c  k m HK.out HM.out ubc Hubc.out (by omega) (by omega) B C cb cc _ HB.out HC.out).mono ?_
  rintro e w1 ⟨Av1, cv1, rfl, rv1, b1⟩
  rw [Nubc.out]
  go_wp2_with fail
  refine (iIntersect a ubc  n nubc HN.out Nubc.out t1 Ht1.out (by omega) (by omega) A Av1 ca cv1 _ (Rd.below HA.out (b1)) rv1).mono ?_
  rintro e w2 ⟨Al, cl, rfl, rl, b2⟩
  rw [Nt1.out]
  go_wp2_with fail
  refine (iIntersect a b  n k HN.out HK.out iab Hiab.out (by omega) (by omega) A B ca cb _ (Rd.below HA.out (belowThen b1 (b2))) (Rd.below HB.out (belowThen b1 (b2)))).mono ?_
  rintro e w3 ⟨Av2, cv2, rfl, rv2, b3⟩
  rw [Niab.out]
  go_wp2_with fail
  refine (iIntersect a c  n m HN.out HM.out iac Hiac.out (by omega) (by omega) A C ca cc _ (Rd.below HA.out (belowThen b1 (belowThen b2 (b3)))) (Rd.below HC.out (belowThen b1 (belowThen b2 (b3))))).mono ?_
  rintro e w4 ⟨Av3, cv3, rfl, rv3, b4⟩
  rw [Niac.out]
  go_wp2_with fail
  refine (iUnion iab iac  niab niac Niab.out Niac.out t1 E1.out (by omega) (by omega) Av2 Av3 cv2 cv3 _ (Rd.below rv2 (b4)) rv3).mono ?_
  rintro e w5 ⟨Ar, cr, rfl, rr, b5⟩
  rw [Nt1.out]
  go_wp2_with fail
  refine (iIntersect b c  k m HK.out HM.out ibc Hibc.out (by omega) (by omega) B C cb cc _ (Rd.below HB.out (belowThen b1 (belowThen b2 (belowThen b3 (belowThen b4 (b5)))))) (Rd.below HC.out (belowThen b1 (belowThen b2 (belowThen b3 (belowThen b4 (b5))))))).mono ?_
  rintro e w6 ⟨Av4, cv4, rfl, rv4, b6⟩
  rw [Nibc.out]
  go_wp2_with fail
  refine (iUnion a ibc  n nibc HN.out Nibc.out t2 Ht2.out (by omega) (by omega) A Av4 ca cv4 _ (Rd.below HA.out (belowThen b1 (belowThen b2 (belowThen b3 (belowThen b4 (belowThen b5 (b6))))))) rv4).mono ?_
  rintro e w7 ⟨Ax, cx, rfl, rx, b7⟩
  rw [Nt2.out]
  go_wp2_with fail
  refine (iUnion a b  n k HN.out HK.out uab Huab.out (by omega) (by omega) A B ca cb _ (Rd.below HA.out (belowThen b1 (belowThen b2 (belowThen b3 (belowThen b4 (belowThen b5 (belowThen b6 (b7)))))))) (Rd.below HB.out (belowThen b1 (belowThen b2 (belowThen b3 (belowThen b4 (belowThen b5 (belowThen b6 (b7))))))))).mono ?_
  rintro e w8 ⟨Av5, cv5, rfl, rv5, b8⟩
  rw [Nuab.out]
  go_wp2_with fail
  refine (iUnion a c  n m HN.out HM.out uac Huac.out (by omega) (by omega) A C ca cc _ (Rd.below HA.out (belowThen b1 (belowThen b2 (belowThen b3 (belowThen b4 (belowThen b5 (belowThen b6 (belowThen b7 (b8))))))))) (Rd.below HC.out (belowThen b1 (belowThen b2 (belowThen b3 (belowThen b4 (belowThen b5 (belowThen b6 (belowThen b7 (b8)))))))))).mono ?_
  rintro e w9 ⟨Av6, cv6, rfl, rv6, b9⟩
  rw [Nuac.out]
  go_wp2_with fail
  refine (iIntersect uab uac  nuab nuac Nuab.out Nuac.out t2 E2.out (by omega) (by omega) Av5 Av6 cv5 cv6 _ (Rd.below rv5 (b9)) rv6).mono ?_
  rintro e w10 ⟨Ay, cy, rfl, ry, b10⟩
  rw [Nt2.out]
  go_wp2_with fail
  refine (iUnion b c  k m HK.out HM.out ubc Hubc.out (by omega) (by omega) B C cb cc _ (Rd.below HB.out (belowThen b1 (belowThen b2 (belowThen b3 (belowThen b4 (belowThen b5 (belowThen b6 (belowThen b7 (belowThen b8 (belowThen b9 (b10))))))))))) (Rd.below HC.out (belowThen b1 (belowThen b2 (belowThen b3 (belowThen b4 (belowThen b5 (belowThen b6 (belowThen b7 (belowThen b8 (belowThen b9 (b10)))))))))))).mono ?_
  rintro e w11 ⟨Av7, cv7, rfl, rv7, b11⟩
  rw [Nubc.out]
  go_wp2_with fail
  refine (iUnion a ubc  n nubc HN.out Nubc.out t3 Ht3.out (by omega) (by omega) A Av7 ca cv7 _ (Rd.below HA.out (belowThen b1 (belowThen b2 (belowThen b3 (belowThen b4 (belowThen b5 (belowThen b6 (belowThen b7 (belowThen b8 (belowThen b9 (belowThen b10 (b11)))))))))))) rv7).mono ?_
  rintro e w12 ⟨Ap, cp, rfl, rp, b12⟩
  rw [Nt3.out]
  go_wp2_with fail
  refine (iUnion a b  n k HN.out HK.out uab Huab.out (by omega) (by omega) A B ca cb _ (Rd.below HA.out (belowThen b1 (belowThen b2 (belowThen b3 (belowThen b4 (belowThen b5 (belowThen b6 (belowThen b7 (belowThen b8 (belowThen b9 (belowThen b10 (belowThen b11 (b12))))))))))))) (Rd.below HB.out (belowThen b1 (belowThen b2 (belowThen b3 (belowThen b4 (belowThen b5 (belowThen b6 (belowThen b7 (belowThen b8 (belowThen b9 (belowThen b10 (belowThen b11 (b12)))))))))))))).mono ?_
  rintro e w13 ⟨Av8, cv8, rfl, rv8, b13⟩
  rw [Nuab.out]
  go_wp2_with fail
  refine (iUnion uab c  nuab m Nuab.out HM.out t3 E3.out (by omega) (by omega) Av8 C cv8 cc _ rv8 (Rd.below HC.out (belowThen b1 (belowThen b2 (belowThen b3 (belowThen b4 (belowThen b5 (belowThen b6 (belowThen b7 (belowThen b8 (belowThen b9 (belowThen b10 (belowThen b11 (belowThen b12 (b13))))))))))))))).mono ?_
  rintro e w14 ⟨Aq, cq, rfl, rq, b14⟩
  rw [Nt3.out]
  go_wp2_with fail
  refine (intsEq t1 nt1 nt1 Nt1.out Nt1.out Al Ar cl cr _ (Rd.below rl (belowThen b3 (belowThen b4 (belowThen b5 (belowThen b6 (belowThen b7 (belowThen b8 (belowThen b9 (belowThen b10 (belowThen b11 (belowThen b12 (belowThen b13 (b14))))))))))))) (Rd.below rr (belowThen b6 (belowThen b7 (belowThen b8 (belowThen b9 (belowThen b10 (belowThen b11 (belowThen b12 (belowThen b13 (b14))))))))))).mono ?_
  rintro e w15 ⟨rfl, b15⟩
  go_wp2_with fail
  refine (intsEq t2 nt2 nt2 Nt2.out Nt2.out Ax Ay cx cy _ (Rd.below rx (belowThen b8 (belowThen b9 (belowThen b10 (belowThen b11 (belowThen b12 (belowThen b13 (belowThen b14 (b15))))))))) (Rd.below ry (belowThen b11 (belowThen b12 (belowThen b13 (belowThen b14 (b15))))))).mono ?_
  rintro e w16 ⟨rfl, b16⟩
  go_wp2_with fail
  refine (intsEq t3 nt3 nt3 Nt3.out Nt3.out Ap Aq cp cq _ (Rd.below rp (belowThen b13 (belowThen b14 (belowThen b15 (b16))))) (Rd.below rq (belowThen b15 (b16)))).mono ?_
  rintro e w17 ⟨rfl, b17⟩
  go_wp2_with fail
  refine (iUnion a b  n k HN.out HK.out uab Huab.out (by omega) (by omega) A B ca cb _ (Rd.below HA.out (belowThen b1 (belowThen b2 (belowThen b3 (belowThen b4 (belowThen b5 (belowThen b6 (belowThen b7 (belowThen b8 (belowThen b9 (belowThen b10 (belowThen b11 (belowThen b12 (belowThen b13 (belowThen b14 (belowThen b15 (belowThen b16 (b17)))))))))))))))))) (Rd.below HB.out (belowThen b1 (belowThen b2 (belowThen b3 (belowThen b4 (belowThen b5 (belowThen b6 (belowThen b7 (belowThen b8 (belowThen b9 (belowThen b10 (belowThen b11 (belowThen b12 (belowThen b13 (belowThen b14 (belowThen b15 (belowThen b16 (b17))))))))))))))))))).mono ?_
  rintro e w18 ⟨Az1, cz1, rfl, rz1, b18⟩
  rw [Nuab.out]
  go_wp2_with fail
  refine (iUnion b a  k n HK.out HN.out uab E4.out (by omega) (by omega) B A cb ca _ (Rd.below HB.out (belowThen b1 (belowThen b2 (belowThen b3 (belowThen b4 (belowThen b5 (belowThen b6 (belowThen b7 (belowThen b8 (belowThen b9 (belowThen b10 (belowThen b11 (belowThen b12 (belowThen b13 (belowThen b14 (belowThen b15 (belowThen b16 (belowThen b17 (b18))))))))))))))))))) (Rd.below HA.out (belowThen b1 (belowThen b2 (belowThen b3 (belowThen b4 (belowThen b5 (belowThen b6 (belowThen b7 (belowThen b8 (belowThen b9 (belowThen b10 (belowThen b11 (belowThen b12 (belowThen b13 (belowThen b14 (belowThen b15 (belowThen b16 (belowThen b17 (b18)))))))))))))))))))).mono ?_
  rintro e w19 ⟨Az2, cz2, rfl, rz2, b19⟩
  rw [Nuab.out]
  go_wp2_with fail
  refine (intsEq uab nuab nuab Nuab.out Nuab.out Az1 Az2 cz1 cz2 _ (Rd.below rz1 (b19)) rz2).mono ?_
  rintro e w20 ⟨rfl, b20⟩
  go_wp2_with fail
  refine (iIntersect a b  n k HN.out HK.out iab Hiab.out (by omega) (by omega) A B ca cb _ (Rd.below HA.out (belowThen b1 (belowThen b2 (belowThen b3 (belowThen b4 (belowThen b5 (belowThen b6 (belowThen b7 (belowThen b8 (belowThen b9 (belowThen b10 (belowThen b11 (belowThen b12 (belowThen b13 (belowThen b14 (belowThen b15 (belowThen b16 (belowThen b17 (belowThen b18 (belowThen b19 (b20))))))))))))))))))))) (Rd.below HB.out (belowThen b1 (belowThen b2 (belowThen b3 (belowThen b4 (belowThen b5 (belowThen b6 (belowThen b7 (belowThen b8 (belowThen b9 (belowThen b10 (belowThen b11 (belowThen b12 (belowThen b13 (belowThen b14 (belowThen b15 (belowThen b16 (belowThen b17 (belowThen b18 (belowThen b19 (b20)))))))))))))))))))))).mono ?_
  rintro e w21 ⟨Az3, cz3, rfl, rz3, b21⟩
  rw [Niab.out]
  go_wp2_with fail
  refine (iIntersect b a  k n HK.out HN.out iab E5.out (by omega) (by omega) B A cb ca _ (Rd.below HB.out (belowThen b1 (belowThen b2 (belowThen b3 (belowThen b4 (belowThen b5 (belowThen b6 (belowThen b7 (belowThen b8 (belowThen b9 (belowThen b10 (belowThen b11 (belowThen b12 (belowThen b13 (belowThen b14 (belowThen b15 (belowThen b16 (belowThen b17 (belowThen b18 (belowThen b19 (belowThen b20 (b21)))))))))))))))))))))) (Rd.below HA.out (belowThen b1 (belowThen b2 (belowThen b3 (belowThen b4 (belowThen b5 (belowThen b6 (belowThen b7 (belowThen b8 (belowThen b9 (belowThen b10 (belowThen b11 (belowThen b12 (belowThen b13 (belowThen b14 (belowThen b15 (belowThen b16 (belowThen b17 (belowThen b18 (belowThen b19 (belowThen b20 (b21))))))))))))))))))))))).mono ?_
  rintro e w22 ⟨Az4, cz4, rfl, rz4, b22⟩
  rw [Niab.out]
  go_wp2_with fail
  refine (intsEq iab niab niab Niab.out Niab.out Az3 Az4 cz3 cz4 _ (Rd.below rz3 (b22)) rz4).mono ?_
  rintro e w23 ⟨rfl, b23⟩
  go_wp2_with fail
  refine (iIntersect a a  n n HN.out HN.out ma E6.out (by omega) (by omega) A A ca ca _ (Rd.below HA.out (belowThen b1 (belowThen b2 (belowThen b3 (belowThen b4 (belowThen b5 (belowThen b6 (belowThen b7 (belowThen b8 (belowThen b9 (belowThen b10 (belowThen b11 (belowThen b12 (belowThen b13 (belowThen b14 (belowThen b15 (belowThen b16 (belowThen b17 (belowThen b18 (belowThen b19 (belowThen b20 (belowThen b21 (belowThen b22 (b23)))))))))))))))))))))))) (Rd.below HA.out (belowThen b1 (belowThen b2 (belowThen b3 (belowThen b4 (belowThen b5 (belowThen b6 (belowThen b7 (belowThen b8 (belowThen b9 (belowThen b10 (belowThen b11 (belowThen b12 (belowThen b13 (belowThen b14 (belowThen b15 (belowThen b16 (belowThen b17 (belowThen b18 (belowThen b19 (belowThen b20 (belowThen b21 (belowThen b22 (b23))))))))))))))))))))))))).mono ?_
  rintro e w24 ⟨Az5, cz5, rfl, rz5, b24⟩
  rw [Nma.out]
  go_wp2_with fail
  refine (iMakeN a  n HN.out ma Hma.out (by omega) A ca _ (Rd.below HA.out (belowThen b1 (belowThen b2 (belowThen b3 (belowThen b4 (belowThen b5 (belowThen b6 (belowThen b7 (belowThen b8 (belowThen b9 (belowThen b10 (belowThen b11 (belowThen b12 (belowThen b13 (belowThen b14 (belowThen b15 (belowThen b16 (belowThen b17 (belowThen b18 (belowThen b19 (belowThen b20 (belowThen b21 (belowThen b22 (belowThen b23 (b24)))))))))))))))))))))))))).mono ?_
  rintro e w25 ⟨Az6, cz6, rfl, rz6, b25⟩
  rw [Nma.out]
  go_wp2_with fail
  refine (intsEq ma nma nma Nma.out Nma.out Az5 Az6 cz5 cz6 _ (Rd.below rz5 (b25)) rz6).mono ?_
  rintro e w26 ⟨rfl, b26⟩
  go_wp2_with fail
  refine (iUnion a a  n n HN.out HN.out ma E7.out (by omega) (by omega) A A ca ca _ (Rd.below HA.out (belowThen b1 (belowThen b2 (belowThen b3 (belowThen b4 (belowThen b5 (belowThen b6 (belowThen b7 (belowThen b8 (belowThen b9 (belowThen b10 (belowThen b11 (belowThen b12 (belowThen b13 (belowThen b14 (belowThen b15 (belowThen b16 (belowThen b17 (belowThen b18 (belowThen b19 (belowThen b20 (belowThen b21 (belowThen b22 (belowThen b23 (belowThen b24 (belowThen b25 (b26))))))))))))))))))))))))))) (Rd.below HA.out (belowThen b1 (belowThen b2 (belowThen b3 (belowThen b4 (belowThen b5 (belowThen b6 (belowThen b7 (belowThen b8 (belowThen b9 (belowThen b10 (belowThen b11 (belowThen b12 (belowThen b13 (belowThen b14 (belowThen b15 (belowThen b16 (belowThen b17 (belowThen b18 (belowThen b19 (belowThen b20 (belowThen b21 (belowThen b22 (belowThen b23 (belowThen b24 (belowThen b25 (b26)))))))))))))))))))))))))))).mono ?_
  rintro e w27 ⟨Az7, cz7, rfl, rz7, b27⟩
  rw [Nma.out]
  go_wp2_with fail
  refine (iMakeN a  n HN.out ma Hma.out (by omega) A ca _ (Rd.below HA.out (belowThen b1 (belowThen b2 (belowThen b3 (belowThen b4 (belowThen b5 (belowThen b6 (belowThen b7 (belowThen b8 (belowThen b9 (belowThen b10 (belowThen b11 (belowThen b12 (belowThen b13 (belowThen b14 (belowThen b15 (belowThen b16 (belowThen b17 (belowThen b18 (belowThen b19 (belowThen b20 (belowThen b21 (belowThen b22 (belowThen b23 (belowThen b24 (belowThen b25 (belowThen b26 (b27))))))))))))))))))))))))))))).mono ?_
  rintro e w28 ⟨Az8, cz8, rfl, rz8, b28⟩
  rw [Nma.out]
  go_wp2_with fail
  refine (intsEq ma nma nma Nma.out Nma.out Az7 Az8 cz7 cz8 _ (Rd.below rz7 (b28)) rz8).mono ?_
  rintro e w29 ⟨rfl, b29⟩
  go_wp2
  go_ret
  exact ⟨rfl, belowThen b1 (belowThen b2 (belowThen b3 (belowThen b4 (belowThen b5 (belowThen b6 (belowThen b7 (belowThen b8 (belowThen b9 (belowThen b10 (belowThen b11 (belowThen b12 (belowThen b13 (belowThen b14 (belowThen b15 (belowThen b16 (belowThen b17 (belowThen b18 (belowThen b19 (belowThen b20 (belowThen b21 (belowThen b22 (belowThen b23 (belowThen b24 (belowThen b25 (belowThen b26 (belowThen b27 (belowThen b28 (b29))))))))))))))))))))))))))))⟩

set_option maxHeartbeats 8000000 in
theorem lawAlgebra (a b c : List Int) (n k m : Nat) (hn : a.length = n) (hk : b.length = k) (hm : c.length = m) (A B C : Option Addr) (ca cb cc : Nat) (w : World) (ha : Rd w A ca a) (hb : Rd w B cb b) (hc : Rd w C cc c) :
    Calls Try.prog 7 #[.slice A n ca, .slice B k cb, .slice C m cc] w (LawOk w) := by
  have HA := Lib.hid ha; clear ha
  have HB := Lib.hid hb; clear hb
  have HC := Lib.hid hc; clear hc
  have HN := Lib.hid hn; clear hn
  have HK := Lib.hid hk; clear hk
  have HM := Lib.hid hm; clear hm
  by_cases hs1 : n ≤ 100
  · by_cases hs2 : k ≤ 100
    · by_cases hs3 : m ≤ 100
      · have k0 := hs1
        obtain ⟨s, hs⟩ : ∃ s, min' a b = s := ⟨_, rfl⟩
        obtain ⟨ns, hns⟩ : ∃ k, s.length = k := ⟨_, rfl⟩
        have ks : ns ≤ 100 := by rw [← hns, ← hs]; exact Nat.le_trans (lenC a b HN.out) (by omega)
        have Hs := Lib.hid hs; clear hs
        have Ns := Lib.hid hns; clear hns
        obtain ⟨t, ht⟩ : ∃ t, int' a b = t := ⟨_, rfl⟩
        obtain ⟨nt, hnt⟩ : ∃ k, t.length = k := ⟨_, rfl⟩
        have kt : nt ≤ 100 := by rw [← hnt, ← ht]; exact Nat.le_trans (lenB a b HN.out) (by omega)
        have Ht := Lib.hid ht; clear ht
        have Nt := Lib.hid hnt; clear hnt
        obtain ⟨ma, hma⟩ : ∃ ma, mk a = ma := ⟨_, rfl⟩
        obtain ⟨nma, hnma⟩ : ∃ k, ma.length = k := ⟨_, rfl⟩
        have kma : nma ≤ 100 := by rw [← hnma, ← hma]; exact Nat.le_trans (lenD a HN.out) (by omega)
        have Hma := Lib.hid hma; clear hma
        have Nma := Lib.hid hnma; clear hnma
        obtain ⟨u, hu⟩ : ∃ u, uni a b = u := ⟨_, rfl⟩
        obtain ⟨nu, hnu⟩ : ∃ k, u.length = k := ⟨_, rfl⟩
        have ku : nu ≤ 200 := by rw [← hnu, ← hu]; exact Nat.le_trans (lenA a b HN.out HK.out) (by omega)
        have Hu := Lib.hid hu; clear hu
        have Nu := Lib.hid hnu; clear hnu
        obtain ⟨mb, hmb⟩ : ∃ mb, mk b = mb := ⟨_, rfl⟩
        obtain ⟨nmb, hnmb⟩ : ∃ k, mb.length = k := ⟨_, rfl⟩
        have kmb : nmb ≤ 100 := by rw [← hnmb, ← hmb]; exact Nat.le_trans (lenD b HK.out) (by omega)
        have Hmb := Lib.hid hmb; clear hmb
        have Nmb := Lib.hid hnmb; clear hnmb
        have E1 := Lib.hid (show int' s t = [] by rw [← Hs.out, ← Ht.out, partsNo])
        have E2 := Lib.hid (show uni s t = ma by rw [← Hs.out, ← Ht.out, partsAll, Hma.out])
        have E3 := Lib.hid (show srtB s = true by rw [← Hs.out]; exact srtB_yes (srtMk _))
        have E4 := Lib.hid (show srtB t = true by rw [← Ht.out]; exact srtB_yes (srtMk _))
        obtain ⟨q, hq⟩ : ∃ q, subB a b = q := ⟨_, rfl⟩
        have HQ := Lib.hid hq
        have E5 := Lib.hid (show eqB u mb = q by rw [← Hu.out, ← Hmb.out, subEq, hq])
        clear hq
        have N0 := Lib.hid (show ([] : List Int).length = 0 from rfl)
        go_enter Try.func7, Try.ntmps7
        go_wp2_with fail
        refine (iMinus a b  n k HN.out HK.out s Hs.out (by omega) (by omega) A B ca cb _ HA.out HB.out).mono ?_
        rintro e w1 ⟨Av1, cv1, rfl, rv1, b1⟩
        rw [Ns.out]
        go_wp2_with fail
        refine (iIntersect a b  n k HN.out HK.out t Ht.out (by omega) (by omega) A B ca cb _ (Rd.below HA.out (b1)) (Rd.below HB.out (b1))).mono ?_
        rintro e w2 ⟨Av2, cv2, rfl, rv2, b2⟩
        rw [Nt.out]
        go_wp2_with fail
        refine (iIntersect s t  ns nt Ns.out Nt.out [] E1.out (by omega) (by omega) Av1 Av2 cv1 cv2 _ (Rd.below rv1 (b2)) rv2).mono ?_
        rintro e w3 ⟨Av3, cv3, rfl, rv3, b3⟩
        rw [N0.out]
        go_wp2_with fail
        refine (iUnion s t  ns nt Ns.out Nt.out ma E2.out (by omega) (by omega) Av1 Av2 cv1 cv2 _ (Rd.below rv1 (belowThen b2 (b3))) (Rd.below rv2 (b3))).mono ?_
        rintro e w4 ⟨Av4, cv4, rfl, rv4, b4⟩
        rw [Nma.out]
        go_wp2_with fail
        refine (iMakeN a  n HN.out ma Hma.out (by omega) A ca _ (Rd.below HA.out (belowThen b1 (belowThen b2 (belowThen b3 (b4)))))).mono ?_
        rintro e w5 ⟨Av5, cv5, rfl, rv5, b5⟩
        rw [Nma.out]
        go_wp2_with fail
        refine (intsEq ma nma nma Nma.out Nma.out Av4 Av5 cv4 cv5 _ (Rd.below rv4 (b5)) rv5).mono ?_
        rintro e w6 ⟨rfl, b6⟩
        go_wp2_with fail
        refine (iSubset a b n k HN.out HK.out q HQ.out (by omega) (by omega) A B ca cb _ (Rd.below HA.out (belowThen b1 (belowThen b2 (belowThen b3 (belowThen b4 (belowThen b5 (b6))))))) (Rd.below HB.out (belowThen b1 (belowThen b2 (belowThen b3 (belowThen b4 (belowThen b5 (b6)))))))).mono ?_
        rintro e w7 ⟨rfl, b7⟩
        go_wp2_with fail
        refine (iUnion a b  n k HN.out HK.out u Hu.out (by omega) (by omega) A B ca cb _ (Rd.below HA.out (belowThen b1 (belowThen b2 (belowThen b3 (belowThen b4 (belowThen b5 (belowThen b6 (b7)))))))) (Rd.below HB.out (belowThen b1 (belowThen b2 (belowThen b3 (belowThen b4 (belowThen b5 (belowThen b6 (b7))))))))).mono ?_
        rintro e w8 ⟨Av6, cv6, rfl, rv6, b8⟩
        rw [Nu.out]
        go_wp2_with fail
        refine (iMakeN b  k HK.out mb Hmb.out (by omega) B cb _ (Rd.below HB.out (belowThen b1 (belowThen b2 (belowThen b3 (belowThen b4 (belowThen b5 (belowThen b6 (belowThen b7 (b8)))))))))).mono ?_
        rintro e w9 ⟨Av7, cv7, rfl, rv7, b9⟩
        rw [Nmb.out]
        go_wp2_with fail
        refine (rIntsN u mb nu nmb Nu.out Nmb.out q E5.out Av6 Av7 cv6 cv7 _ (Rd.below rv6 (b9)) rv7).mono ?_
        rintro e w10 ⟨rfl, b10⟩
        go_wp2_with fail
        refine (awakeOk _).mono ?_
        rintro e w11 ⟨rfl, b11⟩
        go_wp2_with fail
        refine (lawDist a b c n k m HN.out HK.out HM.out hs1 hs2 hs3 A B C ca cb cc _ (Rd.below HA.out (belowThen b1 (belowThen b2 (belowThen b3 (belowThen b4 (belowThen b5 (belowThen b6 (belowThen b7 (belowThen b8 (belowThen b9 (belowThen b10 (b11)))))))))))) (Rd.below HB.out (belowThen b1 (belowThen b2 (belowThen b3 (belowThen b4 (belowThen b5 (belowThen b6 (belowThen b7 (belowThen b8 (belowThen b9 (belowThen b10 (b11)))))))))))) (Rd.below HC.out (belowThen b1 (belowThen b2 (belowThen b3 (belowThen b4 (belowThen b5 (belowThen b6 (belowThen b7 (belowThen b8 (belowThen b9 (belowThen b10 (b11))))))))))))).mono ?_
        rintro e w12 ⟨rfl, b12⟩
        go_wp2_with fail
        refine (iValidN s ns Ns.out true E3.out Av1 cv1 _ (Rd.below rv1 (belowThen b2 (belowThen b3 (belowThen b4 (belowThen b5 (belowThen b6 (belowThen b7 (belowThen b8 (belowThen b9 (belowThen b10 (belowThen b11 (b12))))))))))))).mono ?_
        rintro e w13 ⟨rfl, b13⟩
        go_wp2_with fail
        refine (iValidN t nt Nt.out true E4.out Av2 cv2 _ (Rd.below rv2 (belowThen b3 (belowThen b4 (belowThen b5 (belowThen b6 (belowThen b7 (belowThen b8 (belowThen b9 (belowThen b10 (belowThen b11 (belowThen b12 (b13))))))))))))).mono ?_
        rintro e w14 ⟨rfl, b14⟩
        go_wp2
        go_ret
        exact ⟨by simp, belowThen b1 (belowThen b2 (belowThen b3 (belowThen b4 (belowThen b5 (belowThen b6 (belowThen b7 (belowThen b8 (belowThen b9 (belowThen b10 (belowThen b11 (belowThen b12 (belowThen b13 (b14)))))))))))))⟩
      · go_enter Try.func7, Try.ntmps7
        go_wp2_with fail
        refine (awakeOk _).mono ?_
        rintro e w1 ⟨rfl, b1⟩
        go_wp2
        go_ret
        exact ⟨rfl, b1⟩
    · go_enter Try.func7, Try.ntmps7
      go_wp2_with fail
      refine (awakeOk _).mono ?_
      rintro e w1 ⟨rfl, b1⟩
      go_wp2
      go_ret
      exact ⟨rfl, b1⟩
  · go_enter Try.func7, Try.ntmps7
    go_wp2_with fail
    refine (awakeOk _).mono ?_
    rintro e w1 ⟨rfl, b1⟩
    go_wp2
    go_ret
    exact ⟨rfl, b1⟩
end Go.Proofs.Ythfllfdgndaddaa
