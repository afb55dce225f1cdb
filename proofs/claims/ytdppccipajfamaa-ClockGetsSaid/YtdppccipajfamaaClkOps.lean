/-
  The contracts of Join, Meet, Advance, LessEq and Concurrent.
-/
import Derived.Test.YtdppccipajfamaaJoin
import Derived.Test.YtdppccipajfamaaSame
namespace Go.Proofs.Ytdppccipajfamaa
open Go.RowKit

theorem getBd (c : Ck) (x : Int) : 0 ≤ getC c x ∧ getC c x ≤ 2147483647 := by
  unfold getC; split
  · rename_i h; exact cntBd h x
  · omega
set_option maxHeartbeats 400000 in
theorem iJoin (a b : Ck) (n m : Nat) (hn : a.length = n) (hm : b.length = m) (r : Ck) (hr : joinC a b = r) (hs : n ≤ 65536) (hs' : m ≤ 65536) (A B : Option Addr) (c d : Nat) (w : World) (ha : Rc w A c a) (hb : Rc w B d b) :
    Calls Try.prog 17 #[.slice A n c, .slice B m d] w (GivesC r w) := by
  have HA := Lib.hid ha; clear ha
  have HB := Lib.hid hb; clear hb
  have HN := Lib.hid hn; clear hn
  have HM := Lib.hid hm; clear hm
  have HR := Lib.hid (show mrgC max a b = r from hr); clear hr
  go_enter Try.func17, Try.ntmps17
  go_wp2_with fail
  refine (iMerge max 31 (fun args w => by rfl) (fun p q w => cMax p q w) a b n m HN.out HM.out r HR.out hs hs' A B c d _ HA.out HB.out).mono ?_
  rintro e w1 ⟨v, rfl, o1, b1⟩
  go_wp2
  go_ret
  exact ⟨v, rfl, o1, b1⟩
set_option maxHeartbeats 400000 in
theorem iMeet (a b : Ck) (n m : Nat) (hn : a.length = n) (hm : b.length = m) (r : Ck) (hr : meetC a b = r) (hs : n ≤ 65536) (hs' : m ≤ 65536) (A B : Option Addr) (c d : Nat) (w : World) (ha : Rc w A c a) (hb : Rc w B d b) :
    Calls Try.prog 19 #[.slice A n c, .slice B m d] w (GivesC r w) := by
  have HA := Lib.hid ha; clear ha
  have HB := Lib.hid hb; clear hb
  have HN := Lib.hid hn; clear hn
  have HM := Lib.hid hm; clear hm
  have HR := Lib.hid (show mrgC min a b = r from hr); clear hr
  go_enter Try.func19, Try.ntmps19
  go_wp2_with fail
  refine (iMerge min 32 (fun args w => by rfl) (fun p q w => cMin p q w) a b n m HN.out HM.out r HR.out hs hs' A B c d _ HA.out HB.out).mono ?_
  rintro e w1 ⟨v, rfl, o1, b1⟩
  go_wp2
  go_ret
  exact ⟨v, rfl, o1, b1⟩
set_option maxHeartbeats 400000 in
theorem iAdvance (a : Ck) (x : Int) (n : Nat) (hn : a.length = n) (r : Ck) (hr : advC a x = r) (hs : n ≤ 65536) (A : Option Addr) (c : Nat) (w : World) (ha : Rc w A c a) :
    Calls Try.prog 15 #[.slice A n c, .int .i64 x] w (GivesC r w) := by
  have HA := Lib.hid ha; clear ha
  have HN := Lib.hid hn; clear hn
  obtain ⟨g, hg⟩ : ∃ g, getC a x = g := ⟨_, rfl⟩
  have hb := getBd a x
  rw [hg] at hb
  obtain ⟨hb1, hb2⟩ := hb
  have HR := Lib.hid (show joinC a [(x, g + 1)] = r by rw [← hr, advC, hg]); clear hr
  have HG := Lib.hid hg; clear hg
  go_enter Try.func15, Try.ntmps15
  go_wp2_with fail
  refine (iGet a x n HN.out g HG.out A c _ HA.out).mono ?_
  rintro e w1 ⟨rfl, b1⟩
  go_wp2_with fail
  refine (iJoin a [(x, g + 1)] n 1 HN.out rfl r HR.out hs (by omega) A _ c 1 _ ((HA.out.below b1).alloc _) (cellTick w1 x (g + 1) _)).mono ?_
  rintro e w2 ⟨v, rfl, o2, b2⟩
  go_wp2
  go_ret
  exact ⟨v, rfl, o2.mono (by have := b1.size; simp; omega), belowThen b1 (stepA (Below.refl _ _) (b2.mono (by simp)))⟩
set_option maxHeartbeats 400000 in
theorem iLessEq (a b : Ck) (n m : Nat) (hn : a.length = n) (hm : b.length = m) (r : Bool) (hr : leB a b = r) (hs : n ≤ 65536) (hs' : m ≤ 65536) (A B : Option Addr) (c d : Nat) (w : World) (ha : Rc w A c a) (hb : Rc w B d b) :
    Calls Try.prog 21 #[.slice A n c, .slice B m d] w fun e w' => e = .returned (.bool r) ∧ Below w.heap.size w w' := by
  have HA := Lib.hid ha; clear ha
  have HB := Lib.hid hb; clear hb
  have HN := Lib.hid hn; clear hn
  have HM := Lib.hid hm; clear hm
  rcases hva : vldB a with _ | _
  · have HR := Lib.hid (show false = r by rw [← hr, leB, decide_eq_false (fun h => vldNo.1 hva h.1)]); clear hr
    have HV := Lib.hid hva; clear hva
    go_enter Try.func21, Try.ntmps21
    go_wp2_with fail
    refine (iValid a n HN.out _ HV.out A c _ HA.out).mono ?_
    rintro e w1 ⟨rfl, b1⟩
    go_wp2
    go_ret
    exact ⟨retB HR.out, b1⟩
  rcases hvb : vldB b with _ | _
  · have HR := Lib.hid (show false = r by rw [← hr, leB, decide_eq_false (fun h => vldNo.1 hvb h.2.1)]); clear hr
    have HV := Lib.hid hva; clear hva
    have HW := Lib.hid hvb; clear hvb
    go_enter Try.func21, Try.ntmps21
    go_wp2_with fail
    refine (iValid a n HN.out _ HV.out A c _ HA.out).mono ?_
    rintro e w1 ⟨rfl, b1⟩
    go_wp2_with fail
    refine (iValid b m HM.out _ HW.out B d _ (HB.out.below b1)).mono ?_
    rintro e w2 ⟨rfl, b2⟩
    go_wp2
    go_ret
    exact ⟨retB HR.out, belowThen b1 b2⟩
  have HR := Lib.hid (show eqC (joinC a b) b = r by rw [← hr, leB, eqC]; exact decide_eq_decide.2 ⟨fun h => ⟨vldIff.1 hva, vldIff.1 hvb, h⟩, fun h => h.2.2⟩); clear hr
  have HV := Lib.hid hva; clear hva
  have HW := Lib.hid hvb; clear hvb
  obtain ⟨J, hJ⟩ : ∃ J, joinC a b = J := ⟨_, rfl⟩
  rw [hJ] at HR
  have HJ := Lib.hid hJ; clear hJ
  obtain ⟨k, hk⟩ : ∃ k, J.length = k := ⟨_, rfl⟩
  have HL := Lib.hid hk; clear hk
  go_enter Try.func21, Try.ntmps21
  go_wp2_with fail
  refine (iValid a n HN.out _ HV.out A c _ HA.out).mono ?_
  rintro e w1 ⟨rfl, b1⟩
  go_wp2_with fail
  refine (iValid b m HM.out _ HW.out B d _ (HB.out.below b1)).mono ?_
  rintro e w2 ⟨rfl, b2⟩
  go_wp2_with fail
  refine (iJoin a b n m HN.out HM.out J HJ.out hs hs' A B c d _ (HA.out.below (belowThen b1 b2)) (HB.out.below (belowThen b1 b2))).mono ?_
  rintro e w3 ⟨v, rfl, o3, b3⟩
  obtain ⟨A3, c3, rfl, r3, _⟩ := o3.rd
  rw [HL.out]
  go_wp2_with fail
  refine (iEqual J b k m HL.out HM.out r HR.out A3 B c3 d _ r3 (HB.out.below (belowThen (belowThen b1 b2) b3))).mono ?_
  rintro e w4 ⟨rfl, q, rfl⟩
  go_wp2
  go_ret
  exact ⟨rfl, belowDrewN (belowThen (belowThen b1 b2) b3) q⟩
end Go.Proofs.Ytdppccipajfamaa
