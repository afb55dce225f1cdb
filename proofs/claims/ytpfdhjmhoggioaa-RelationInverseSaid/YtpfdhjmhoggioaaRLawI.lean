/-
  The law RelationInverse: its walk.
-/
import Derived.Test.YtpfdhjmhoggioaaREx
import Derived.Deep.RegionHeld3
namespace Go.Proofs.Ytpfdhjmhoggioaa
open Go.RowKit Go.Maps

theorem invCmp {n : Nat} {f g : Nat → Nat → Bool} {a b : Nat} : invT (cmpT n f g) a b = cmpT n (invT g) (invT f) a b := by
  unfold invT
  rw [Bool.eq_iff_iff, cmpIff, cmpIff]
  constructor
  · rintro ⟨x, hx, h1, h2⟩; exact ⟨x, hx, h2, h1⟩
  · rintro ⟨x, hx, h1, h2⟩; exact ⟨x, hx, h2, h1⟩
theorem cmpCongr {n : Nat} {f g f' g' : Nat → Nat → Bool} (h1 : ∀ a b, a < n → b < n → f a b = f' a b) (h2 : ∀ a b, a < n → b < n → g a b = g' a b) {a b : Nat} (ha : a < n) (hb : b < n) : cmpT n f g a b = cmpT n f' g' a b := by
  rw [Bool.eq_iff_iff, cmpIff, cmpIff]
  constructor
  · rintro ⟨x, hx, h3, h4⟩; exact ⟨x, hx, (h1 a x ha hx).symm.trans h3, (h2 x b hx hb).symm.trans h4⟩
  · rintro ⟨x, hx, h3, h4⟩; exact ⟨x, hx, (h1 a x ha hx).trans h3, (h2 x b hx hb).trans h4⟩
theorem acyCongr {n : Nat} {f g : Nat → Nat → Bool} (h : ∀ a b, a < n → b < n → f a b = g a b) : acyB n f = acyB n g := by
  rw [Bool.eq_iff_iff, acyIff, acyIff]
  unfold acyT
  constructor
  · intro h1 a ha; rw [← tcCongr h ha ha]; exact h1 a ha
  · intro h1 a ha; rw [tcCongr h ha ha]; exact h1 a ha
theorem acyInvB {n : Nat} {f : Nat → Nat → Bool} : acyB n (invT f) = acyB n f := by
  rw [Bool.eq_iff_iff, acyIff, acyIff]
  unfold acyT invT
  constructor
  · intro h1 a ha; rw [← tcInv]; exact h1 a ha
  · intro h1 a ha; rw [tcInv]; exact h1 a ha

set_option maxRecDepth 100000 in
set_option maxHeartbeats 4000000 in
theorem lawInverseShort (N M : Int) (l m : Prs) (n k : Nat) (hn : l.length = n) (hk : m.length = k) (h : ¬ (n ≤ 300 ∧ k ≤ 300 ∧ okR N l = true ∧ okR M m = true ∧ N = M)) (A B : Option Addr) (c d : Nat) (w : World) (ha : Rp w A c l) (hb : Rp w B d m) :
    Calls Try.prog 7 #[relV N A n c, relV M B k d] w fun e w' => e = .returned (.bool true) ∧ Below w.heap.size w w' := by
  obtain ⟨W, hW, hB0, hB1, hbW, hzW⟩ := twoBoxes w N M (.slice A n c) (.slice B k d)
  have HA := Lib.hid (ha.below hbW); clear ha
  have HB := Lib.hid (hb.below hbW); clear hb
  have HN := Lib.hid hn; clear hn
  have HK := Lib.hid hk; clear hk
  have HB0 := Lib.hid hB0; clear hB0
  have HB1 := Lib.hid hB1; clear hB1
  obtain ⟨c0, c1, _, _⟩ := HB0.out.facts
  obtain ⟨c2, c3, _, _⟩ := HB1.out.facts
  by_cases h1 : n ≤ 300
  · have q1 : decide ((n : Int) > 300) = false := by simp; omega
    by_cases h2 : k ≤ 300
    · have q2 : decide ((k : Int) > 300) = false := by simp; omega
      cases hv : okR N l with
      | false =>
        have HV := Lib.hid hv
        clear hv h
        go_enter Try.func7, Try.ntmps7
        go_wp2_with fail
        refine (iValid N l n HN.out false HV.out A c _ HA.out).mono ?_
        rintro e w0 ⟨rfl, b0⟩
        go_wp2_with fail
        refine (lExample _).mono ?_
        rintro e w1 ⟨rfl, b1⟩
        go_wp2
        go_ret
        exact ⟨rfl, belowThen (belowThen hbW b0) b1⟩
      | true =>
        cases hv' : okR M m with
        | false =>
          have HV := Lib.hid hv
          have HV' := Lib.hid hv'
          clear hv hv' h
          go_enter Try.func7, Try.ntmps7
          go_wp2_with fail
          refine (iValid N l n HN.out true HV.out A c _ HA.out).mono ?_
          rintro e w0 ⟨rfl, b0⟩
          obtain ⟨c2, c3, _, _⟩ := (HB1.out.below b0).facts
          go_wp2_with fail
          refine (iValid M m k HK.out false HV'.out B d _ (HB.out.below b0)).mono ?_
          rintro e w1 ⟨rfl, b1⟩
          go_wp2_with fail
          refine (lExample _).mono ?_
          rintro e w2 ⟨rfl, b2⟩
          go_wp2
          go_ret
          exact ⟨rfl, belowThen (belowThen (belowThen hbW b0) b1) b2⟩
        | true =>
          have hne : N ≠ M := fun e => h ⟨h1, h2, hv, hv', e⟩
          have q3 : (N == M) = false := by simp; exact hne
          have HV := Lib.hid hv
          have HV' := Lib.hid hv'
          clear hv hv' h
          go_enter Try.func7, Try.ntmps7
          go_wp2_with fail
          refine (iValid N l n HN.out true HV.out A c _ HA.out).mono ?_
          rintro e w0 ⟨rfl, b0⟩
          have HB0 := Lib.hid (HB0.out.below b0)
          have HB1 := Lib.hid (HB1.out.below b0)
          obtain ⟨c2, c3, _, _⟩ := HB1.out.facts
          go_wp2_with fail
          refine (iValid M m k HK.out true HV'.out B d _ (HB.out.below b0)).mono ?_
          rintro e w1 ⟨rfl, b1⟩
          obtain ⟨d0, d1, _, _⟩ := (HB0.out.below b1).facts
          obtain ⟨d2, d3, _, _⟩ := (HB1.out.below b1).facts
          go_wp2_with fail
          refine (lExample _).mono ?_
          rintro e w2 ⟨rfl, b2⟩
          go_wp2
          go_ret
          exact ⟨rfl, belowThen (belowThen (belowThen hbW b0) b1) b2⟩
    · have q2 : decide ((k : Int) > 300) = true := by simp; omega
      clear h
      go_enter Try.func7, Try.ntmps7
      go_wp2_with fail
      refine (lExample _).mono ?_
      rintro e w1 ⟨rfl, b1⟩
      go_wp2
      go_ret
      exact ⟨rfl, belowThen hbW b1⟩
  · have q1 : decide ((n : Int) > 300) = true := by simp; omega
    clear h
    go_enter Try.func7, Try.ntmps7
    go_wp2_with fail
    refine (lExample _).mono ?_
    rintro e w1 ⟨rfl, b1⟩
    go_wp2
    go_ret
    exact ⟨rfl, belowThen hbW b1⟩
end Go.Proofs.Ytpfdhjmhoggioaa
