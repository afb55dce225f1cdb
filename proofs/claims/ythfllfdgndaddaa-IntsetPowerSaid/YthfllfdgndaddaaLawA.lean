/-
  The laws IntsetMake, IntsetEdit and IntsetCombine return true for every slice and integer; nothing that was in memory changes.
-/
import Derived.Test.YthfllfdgndaddaaAwake
namespace Go.Proofs.Ythfllfdgndaddaa
open Go.RowKit

theorem rMakeN' (l : List Int) (n : Nat) (hn : l.length = n) (r : List Int) (hr : mk l = r) (hs : n ≤ 65536) (A : Option Addr) (c : Nat) (w : World) (ha : Rd w A c l) :
    Calls Try.prog 12 #[.slice A n c] w (GivesL r w) := by subst hn; exact rMake l r hr hs A c w ha
theorem iMakeN (l : List Int) (n : Nat) (hn : l.length = n) (r : List Int) (hr : mk l = r) (hs : n ≤ 65536) (A : Option Addr) (c : Nat) (w : World) (ha : Rd w A c l) :
    Calls Try.prog 11 #[.slice A n c] w (GivesL r w) := by subst hn; exact iMake l r hr hs A c w ha
theorem iValidN (l : List Int) (n : Nat) (hn : l.length = n) (r : Bool) (hr : srtB l = r) (A : Option Addr) (c : Nat) (w : World) (ha : Rd w A c l) :
    Calls Try.prog 13 #[.slice A n c] w fun e w' => e = .returned (.bool r) ∧ Below w.heap.size w w' := by
  subst hn; exact (iValid l r hr A c w ha).mono fun e w' ⟨h1, q, h2⟩ => ⟨h1, by rw [h2]; exact belowN w q⟩
theorem rValidN (l : List Int) (n : Nat) (hn : l.length = n) (r : Bool) (hr : srtB l = r) (A : Option Addr) (c : Nat) (w : World) (ha : Rd w A c l) :
    Calls Try.prog 14 #[.slice A n c] w fun e w' => e = .returned (.bool r) ∧ Below w.heap.size w w' := by
  subst hn; exact (rValid l r hr A c w ha).mono fun e w' ⟨h1, q, h2⟩ => ⟨h1, by rw [h2]; exact belowN w q⟩
theorem rHasN (l : List Int) (x : Int) (n : Nat) (hn : l.length = n) (r : Bool) (hr : memB l x = r) (A : Option Addr) (c : Nat) (w : World) (ha : Rd w A c l) :
    Calls Try.prog 16 #[.slice A n c, .int .i64 x] w fun e w' => e = .returned (.bool r) ∧ w = w' := by subst hn; exact rHas l x r hr A c w ha
theorem iHasN (l : List Int) (x : Int) (n : Nat) (hn : l.length = n) (r : Bool) (hr : memB l x = r) (A : Option Addr) (c : Nat) (w : World) (ha : Rd w A c l) :
    Calls Try.prog 15 #[.slice A n c, .int .i64 x] w fun e w' => e = .returned (.bool r) ∧ w = w' := by subst hn; exact iHas l x r hr A c w ha
theorem rAddN (l : List Int) (x : Int) (n : Nat) (hn : l.length = n) (r : List Int) (hr : uni l [x] = r) (hs : n ≤ 30000) (A : Option Addr) (c : Nat) (w : World) (ha : Rd w A c l) :
    Calls Try.prog 18 #[.slice A n c, .int .i64 x] w (GivesL r w) := by subst hn; exact rAdd l x r hr hs A c w ha
theorem rRemoveN (l : List Int) (x : Int) (n : Nat) (hn : l.length = n) (r : List Int) (hr : min' l [x] = r) (hs : n ≤ 30000) (A : Option Addr) (c : Nat) (w : World) (ha : Rd w A c l) :
    Calls Try.prog 20 #[.slice A n c, .int .i64 x] w (GivesL r w) := by subst hn; exact rRemove l x r hr hs A c w ha
theorem rUnionN (l m : List Int) (n k : Nat) (hn : l.length = n) (hk : m.length = k) (r : List Int) (hr : uni l m = r) (hs : n ≤ 30000) (hs' : k ≤ 30000) (A B : Option Addr) (c d : Nat) (w : World) (ha : Rd w A c l) (hb : Rd w B d m) :
    Calls Try.prog 22 #[.slice A n c, .slice B k d] w (GivesL r w) := by subst hn; subst hk; exact rUnion l m r hr hs hs' A B c d w ha hb
theorem rIntersectN (l m : List Int) (n k : Nat) (hn : l.length = n) (hk : m.length = k) (r : List Int) (hr : int' l m = r) (hs : n ≤ 30000) (A B : Option Addr) (c d : Nat) (w : World) (ha : Rd w A c l) (hb : Rd w B d m) :
    Calls Try.prog 24 #[.slice A n c, .slice B k d] w (GivesL r w) := by subst hn; subst hk; exact rIntersect l m r hr hs A B c d w ha hb
theorem rMinusN (l m : List Int) (n k : Nat) (hn : l.length = n) (hk : m.length = k) (r : List Int) (hr : min' l m = r) (hs : n ≤ 30000) (A B : Option Addr) (c d : Nat) (w : World) (ha : Rd w A c l) (hb : Rd w B d m) :
    Calls Try.prog 26 #[.slice A n c, .slice B k d] w (GivesL r w) := by subst hn; subst hk; exact rMinus l m r hr hs A B c d w ha hb
theorem rSubsetN (l m : List Int) (n k : Nat) (hn : l.length = n) (hk : m.length = k) (r : Bool) (hr : subB l m = r) (A B : Option Addr) (c d : Nat) (w : World) (ha : Rd w A c l) (hb : Rd w B d m) :
    Calls Try.prog 28 #[.slice A n c, .slice B k d] w fun e w' => e = .returned (.bool r) ∧ w = w' := by subst hn; subst hk; exact rSubset l m r hr A B c d w ha hb

def LawOk (w : World) (e : Ending) (w' : World) : Prop := e = .returned (.bool true) ∧ Below w.heap.size w w'

set_option maxHeartbeats 2000000 in
theorem lawMake (l : List Int) (x : Int) (n : Nat) (hn : l.length = n) (A : Option Addr) (c : Nat) (w : World) (ha : Rd w A c l) :
    Calls Try.prog 3 #[.slice A n c, .int .i64 x] w (LawOk w) := by
  have hla := ha.le
  have hca := ha.max
  rw [hn] at hla
  unfold maxLen at hca
  have HA := Lib.hid ha; clear ha
  have HN := Lib.hid hn; clear hn
  by_cases hs : n ≤ 300
  · obtain ⟨s, hs1⟩ : ∃ s, mk l = s := ⟨_, rfl⟩
    obtain ⟨k, hk⟩ : ∃ k, s.length = k := ⟨_, rfl⟩
    obtain ⟨p, hp⟩ : ∃ p, srtB l = p := ⟨_, rfl⟩
    obtain ⟨q, hq⟩ : ∃ q, memB l x = q := ⟨_, rfl⟩
    have HS := Lib.hid hs1; clear hs1
    have HK := Lib.hid hk; clear hk
    have HP := Lib.hid hp; clear hp
    have HQ := Lib.hid hq; clear hq
    go_enter Try.func3, Try.ntmps3
    go_wp2_with fail
    refine (awakeOk _).mono ?_
    rintro e w1 ⟨rfl, b1⟩
    go_wp2_with fail
    refine (iMakeN l n HN.out s HS.out (by omega) A c _ (HA.out.below b1)).mono ?_
    rintro e w2 ⟨A2, c2, rfl, r2, b2⟩
    have B2 := belowThen b1 b2
    rw [HK.out]
    go_wp2_with fail
    refine (rMakeN' l n HN.out s HS.out (by omega) A c _ (HA.out.below B2)).mono ?_
    rintro e w3 ⟨A3, c3, rfl, r3, b3⟩
    rw [HK.out]
    have B3 := belowThen B2 b3
    go_wp2_with fail
    refine (intsEq s k k HK.out HK.out A2 A3 c2 c3 _ (r2.below b3) r3).mono ?_
    rintro e w4 ⟨rfl, b4⟩
    have B4 := belowThen B3 b4
    go_wp2_with fail
    refine (iValidN l n HN.out p HP.out A c _ (HA.out.below B4)).mono ?_
    rintro e w5 ⟨rfl, b5⟩
    have B5 := belowThen B4 b5
    go_wp2_with fail
    refine (rValidN l n HN.out p HP.out A c _ (HA.out.below B5)).mono ?_
    rintro e w6 ⟨rfl, b6⟩
    have B6 := belowThen B5 b6
    go_wp2_with fail
    refine (iHasN l x n HN.out q HQ.out A c _ (HA.out.below B6)).mono ?_
    rintro e w' ⟨rfl, rfl⟩
    go_wp2_with fail
    refine (rHasN l x n HN.out q HQ.out A c _ (HA.out.below B6)).mono ?_
    rintro e w' ⟨rfl, rfl⟩
    go_wp2
    go_ret
    exact ⟨by simp, B6⟩
  · go_enter Try.func3, Try.ntmps3
    go_wp2_with fail
    refine (awakeOk _).mono ?_
    rintro e w1 ⟨rfl, b1⟩
    go_wp2
    go_ret
    exact ⟨rfl, b1⟩
end Go.Proofs.Ythfllfdgndaddaa
