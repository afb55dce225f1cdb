/-
  The law RelationJoins holds: for every input it returns true and leaves its arguments as they were; no condition.
-/
import Derived.Test.YtpfdhjmhoggioaaRRefN
import Derived.Test.YtpfdhjmhoggioaaRRefP
import Derived.Test.YtpfdhjmhoggioaaRUni
import Derived.Test.YtpfdhjmhoggioaaREx
import Derived.Test.YtpfdhjmhoggioaaRRefO
import Derived.Test.YtpfdhjmhoggioaaRRefK
import Derived.Deep.RegionHeld3
import Derived.Test.YtpfdhjmhoggioaaROpen
import Derived.Test.YtpfdhjmhoggioaaRows
import Derived.Carry
namespace Go.Proofs.Ytpfdhjmhoggioaa
open Go.RowKit Go.Maps

set_option maxRecDepth 100000 in
set_option maxHeartbeats 2000000 in
theorem rUnionNo (N M : Int) (l m : Prs) (n k : Nat) (hn : l.length = n) (hm : m.length = k) (hr : mtch N l M m = false) (A B : Option Addr) (c d : Nat) (w : World) (ha : Rp w A c l) (hb : Rp w B d m) :
    Calls Try.prog 17 #[relV N A n c, relV M B k d] w (GivesE 0 [] 1 w) := by
  obtain ⟨W, hW, hB0, hB1, hB2, hbW, _⟩ := threeBoxes w N M (.slice A n c) (.slice B k d)
  have HA := Lib.hid (ha.below hbW); clear ha
  have HB := Lib.hid (hb.below hbW); clear hb
  have HN := Lib.hid hn; clear hn
  have HM := Lib.hid hm; clear hm
  have HB0 := Lib.hid hB0; clear hB0
  have HB1 := Lib.hid hB1; clear hB1
  have HB2 := Lib.hid hB2; clear hB2
  obtain ⟨c0, c1, _, _⟩ := HB0.out.facts
  obtain ⟨c2, c3, _, _⟩ := HB1.out.facts
  cases hv : okR N l with
  | false =>
    have HV := Lib.hid hv
    clear hv hr
    go_enter Try.func17, Try.ntmps17
    go_wp2_with fail
    refine (rValid N l n HN.out false HV.out A c _ HA.out).mono ?_
    rintro e w1 ⟨rfl, b1⟩
    have HB3 := Lib.hid (HB2.out.below b1)
    obtain ⟨d2, d3, f2, f3⟩ := HB3.out.facts
    go_wp2
    refine bodyPost_ret (ResE (HB3.out.stored 0 (.slice none 0 0)) rfl _ rfl) rfl ?_
    exact ⟨none, 0, rfl, Rp.nil, ((hbW.trans (b1.mono hbW.size)).setCell (show w.heap.size ≤ w.heap.size + 1 + 1 by omega) _).setCell (show w.heap.size ≤ w.heap.size + 1 + 1 by omega) _⟩
  | true =>
    cases hv' : okR M m with
    | false =>
      have HV := Lib.hid hv
      have HV' := Lib.hid hv'
      clear hv hv' hr
      go_enter Try.func17, Try.ntmps17
      go_wp2_with fail
      refine (rValid N l n HN.out true HV.out A c _ HA.out).mono ?_
      rintro e w1 ⟨rfl, b1⟩
      have HB1 := Lib.hid (HB1.out.below b1)
      have HB2 := Lib.hid (HB2.out.below b1)
      obtain ⟨c2, c3, _, _⟩ := HB1.out.facts
      go_wp2_with fail
      refine (rValid M m k HM.out false HV'.out B d _ (HB.out.below b1)).mono ?_
      rintro e w2 ⟨rfl, b2⟩
      have HB3 := Lib.hid (HB2.out.below b2)
      obtain ⟨d2, d3, f2, f3⟩ := HB3.out.facts
      have hb2 := belowThen (belowThen hbW b1) b2
      go_wp2
      refine bodyPost_ret (ResE (HB3.out.stored 0 (.slice none 0 0)) rfl _ rfl) rfl ?_
      exact ⟨none, 0, rfl, Rp.nil, (hb2.setCell (show w.heap.size ≤ w.heap.size + 1 + 1 by omega) _).setCell (show w.heap.size ≤ w.heap.size + 1 + 1 by omega) _⟩
    | true =>
      have hne : N ≠ M := fun e => by rw [mtchIff.2 ⟨hv, hv', e⟩] at hr; cases hr
      have q3 : (N != M) = true := by simpa using hne
      have HV := Lib.hid hv
      have HV' := Lib.hid hv'
      clear hv hv' hr
      go_enter Try.func17, Try.ntmps17
      go_wp2_with fail
      refine (rValid N l n HN.out true HV.out A c _ HA.out).mono ?_
      rintro e w1 ⟨rfl, b1⟩
      have HB0 := Lib.hid (HB0.out.below b1)
      have HB1 := Lib.hid (HB1.out.below b1)
      have HB2 := Lib.hid (HB2.out.below b1)
      obtain ⟨c2, c3, _, _⟩ := HB1.out.facts
      go_wp2_with fail
      refine (rValid M m k HM.out true HV'.out B d _ (HB.out.below b1)).mono ?_
      rintro e w2 ⟨rfl, b2⟩
      have HB3 := Lib.hid (HB2.out.below b2)
      obtain ⟨d0, d1, _, _⟩ := (HB0.out.below b2).facts
      obtain ⟨e0, e1, _, _⟩ := (HB1.out.below b2).facts
      obtain ⟨d2, d3, f2, f3⟩ := HB3.out.facts
      have hb2 := belowThen (belowThen hbW b1) b2
      go_wp2
      refine bodyPost_ret (ResE (HB3.out.stored 0 (.slice none 0 0)) rfl _ rfl) rfl ?_
      exact ⟨none, 0, rfl, Rp.nil, (hb2.setCell (show w.heap.size ≤ w.heap.size + 1 + 1 by omega) _).setCell (show w.heap.size ≤ w.heap.size + 1 + 1 by omega) _⟩

set_option maxRecDepth 100000 in
set_option maxHeartbeats 2000000 in
theorem rComposeNo (N M : Int) (l m : Prs) (n k : Nat) (hn : l.length = n) (hm : m.length = k) (hr : mtch N l M m = false) (A B : Option Addr) (c d : Nat) (w : World) (ha : Rp w A c l) (hb : Rp w B d m) :
    Calls Try.prog 19 #[relV N A n c, relV M B k d] w (GivesE 0 [] 1 w) := by
  obtain ⟨W, hW, hB0, hB1, hB2, hbW, _⟩ := threeBoxes w N M (.slice A n c) (.slice B k d)
  have HA := Lib.hid (ha.below hbW); clear ha
  have HB := Lib.hid (hb.below hbW); clear hb
  have HN := Lib.hid hn; clear hn
  have HM := Lib.hid hm; clear hm
  have HB0 := Lib.hid hB0; clear hB0
  have HB1 := Lib.hid hB1; clear hB1
  have HB2 := Lib.hid hB2; clear hB2
  obtain ⟨c0, c1, _, _⟩ := HB0.out.facts
  obtain ⟨c2, c3, _, _⟩ := HB1.out.facts
  cases hv : okR N l with
  | false =>
    have HV := Lib.hid hv
    clear hv hr
    go_enter Try.func19, Try.ntmps19
    go_wp2_with fail
    refine (rValid N l n HN.out false HV.out A c _ HA.out).mono ?_
    rintro e w1 ⟨rfl, b1⟩
    have HB3 := Lib.hid (HB2.out.below b1)
    obtain ⟨d2, d3, f2, f3⟩ := HB3.out.facts
    go_wp2
    refine bodyPost_ret (ResE (HB3.out.stored 0 (.slice none 0 0)) rfl _ rfl) rfl ?_
    exact ⟨none, 0, rfl, Rp.nil, ((hbW.trans (b1.mono hbW.size)).setCell (show w.heap.size ≤ w.heap.size + 1 + 1 by omega) _).setCell (show w.heap.size ≤ w.heap.size + 1 + 1 by omega) _⟩
  | true =>
    cases hv' : okR M m with
    | false =>
      have HV := Lib.hid hv
      have HV' := Lib.hid hv'
      clear hv hv' hr
      go_enter Try.func19, Try.ntmps19
      go_wp2_with fail
      refine (rValid N l n HN.out true HV.out A c _ HA.out).mono ?_
      rintro e w1 ⟨rfl, b1⟩
      have HB1 := Lib.hid (HB1.out.below b1)
      have HB2 := Lib.hid (HB2.out.below b1)
      obtain ⟨c2, c3, _, _⟩ := HB1.out.facts
      go_wp2_with fail
      refine (rValid M m k HM.out false HV'.out B d _ (HB.out.below b1)).mono ?_
      rintro e w2 ⟨rfl, b2⟩
      have HB3 := Lib.hid (HB2.out.below b2)
      obtain ⟨d2, d3, f2, f3⟩ := HB3.out.facts
      have hb2 := belowThen (belowThen hbW b1) b2
      go_wp2
      refine bodyPost_ret (ResE (HB3.out.stored 0 (.slice none 0 0)) rfl _ rfl) rfl ?_
      exact ⟨none, 0, rfl, Rp.nil, (hb2.setCell (show w.heap.size ≤ w.heap.size + 1 + 1 by omega) _).setCell (show w.heap.size ≤ w.heap.size + 1 + 1 by omega) _⟩
    | true =>
      have hne : N ≠ M := fun e => by rw [mtchIff.2 ⟨hv, hv', e⟩] at hr; cases hr
      have q3 : (N != M) = true := by simpa using hne
      have HV := Lib.hid hv
      have HV' := Lib.hid hv'
      clear hv hv' hr
      go_enter Try.func19, Try.ntmps19
      go_wp2_with fail
      refine (rValid N l n HN.out true HV.out A c _ HA.out).mono ?_
      rintro e w1 ⟨rfl, b1⟩
      have HB0 := Lib.hid (HB0.out.below b1)
      have HB1 := Lib.hid (HB1.out.below b1)
      have HB2 := Lib.hid (HB2.out.below b1)
      obtain ⟨c2, c3, _, _⟩ := HB1.out.facts
      go_wp2_with fail
      refine (rValid M m k HM.out true HV'.out B d _ (HB.out.below b1)).mono ?_
      rintro e w2 ⟨rfl, b2⟩
      have HB3 := Lib.hid (HB2.out.below b2)
      obtain ⟨d0, d1, _, _⟩ := (HB0.out.below b2).facts
      obtain ⟨e0, e1, _, _⟩ := (HB1.out.below b2).facts
      obtain ⟨d2, d3, f2, f3⟩ := HB3.out.facts
      have hb2 := belowThen (belowThen hbW b1) b2
      go_wp2
      refine bodyPost_ret (ResE (HB3.out.stored 0 (.slice none 0 0)) rfl _ rfl) rfl ?_
      exact ⟨none, 0, rfl, Rp.nil, (hb2.setCell (show w.heap.size ≤ w.heap.size + 1 + 1 by omega) _).setCell (show w.heap.size ≤ w.heap.size + 1 + 1 by omega) _⟩

theorem okApp {N : Int} {l m : Prs} (h : okR N l = true) (h' : okR N m = true) : okR N (l ++ m) = true := by
  rw [okIff] at h h' ⊢
  refine ⟨h.1, h.2.1, fun p hp => ?_⟩
  rcases List.mem_append.1 hp with hp | hp
  · exact h.2.2 p hp
  · exact h'.2.2 p hp
theorem hasApp (l m : Prs) : hasP (l ++ m) = uniT (hasP l) (hasP m) := by
  funext a b
  unfold uniT hasP
  rw [Bool.eq_iff_iff, Bool.or_eq_true, decide_eq_true_iff, decide_eq_true_iff, decide_eq_true_iff, List.mem_append]

set_option maxRecDepth 100000 in
set_option maxHeartbeats 2000000 in
theorem rUnionYes (N : Nat) (l m : Prs) (n k : Nat) (_ : N ≤ 64) (hn : l.length = n) (hm : m.length = k) (hl : okR N l = true) (hl' : okR N m = true) (L : Prs) (hL : nrm N (uniT (hasP l) (hasP m)) = L) (hs : n ≤ 30000) (hs' : k ≤ 30000) (A B : Option Addr) (c d : Nat) (w : World) (ha : Rp w A c l) (hb : Rp w B d m) :
    Calls Try.prog 17 #[relV N A n c, relV N B k d] w (GivesE N L 0 w) := by
  have e4 : nrmN N (l ++ m) = N := by unfold nrmN; rw [okApp hl hl']; rfl
  have e5 : nrmL N (l ++ m) = L := by unfold nrmL; rw [okApp hl hl', ← hL, hasApp]; rfl
  have HNO := Lib.hid (fun n' (h' : (l ++ m).length = n') A' c' w' ha' => rNormal N (l ++ m) n' h' A' c' w' ha')
  rw [e4, e5] at HNO
  clear e4 e5 hL
  obtain ⟨W, hW, hB0, hB1, hB2, hbW, _⟩ := threeBoxes w N N (.slice A n c) (.slice B k d)
  have HA := Lib.hid (ha.below hbW); clear ha
  have HB := Lib.hid (hb.below hbW); clear hb
  have HN := Lib.hid hn; clear hn
  have HM := Lib.hid hm; clear hm
  have HV := Lib.hid hl
  have HV' := Lib.hid hl'
  have q3 : ((N : Int) != (N : Int)) = false := by simp
  clear hl hl'
  have HB0 := Lib.hid hB0; clear hB0
  have HB1 := Lib.hid hB1; clear hB1
  have HB2 := Lib.hid hB2; clear hB2
  obtain ⟨c0, c1, _, _⟩ := HB0.out.facts
  obtain ⟨c2, c3, _, _⟩ := HB1.out.facts
  go_enter Try.func17, Try.ntmps17
  go_wp2_with fail
  refine (rValid N l n HN.out true HV.out A c _ HA.out).mono ?_
  rintro e w1 ⟨rfl, b1⟩
  have HB0 := Lib.hid (HB0.out.below b1)
  have HB1 := Lib.hid (HB1.out.below b1)
  have HB2 := Lib.hid (HB2.out.below b1)
  obtain ⟨c2, c3, _, _⟩ := HB1.out.facts
  go_wp2_with fail
  refine (rValid N m k HM.out true HV'.out B d _ (HB.out.below b1)).mono ?_
  rintro e w2 ⟨rfl, b2⟩
  have HB0 := Lib.hid (HB0.out.below b2)
  have HB1 := Lib.hid (HB1.out.below b2)
  have HB2 := Lib.hid (HB2.out.below b2)
  have HA := Lib.hid ((HA.out.below b1).below b2)
  have HB := Lib.hid ((HB.out.below b1).below b2)
  have hb2 := belowThen (belowThen hbW b1) b2
  obtain ⟨c0, c1, _, _⟩ := HB0.out.facts
  obtain ⟨c2, c3, _, _⟩ := HB1.out.facts
  have hl0 := HB0.out.lt
  have hl1 := HB1.out.lt
  have hl2 := HB2.out.lt
  have bX := belowAlloc w2 (.cells #[.int .i64 N, .slice none 0 0] 24)
  have HBX := Lib.hid (BoxR.new w2 N (.slice none 0 0))
  have HAX := Lib.hid (HA.out.below bX)
  go_wp2_with (first
    | (at_builtin; refine appPs _ rfl (.tmp 27) (.tmp 29) rfl (w2.heap.size + 1) _ [] rfl (OwnP.nil _ _) A n c l rfl HN.out HAX.out (by simp; omega) (by simp) ?_; intro A1 k1 c4 w3 HO1 HK1 b3; have HB3 : Hid (BoxR w3 w2.heap.size N (.slice none 0 0)) := Lib.hid ((b3.block _ (by omega)).trans HBX.out); obtain ⟨u0, u1, u2, u3⟩ := HB3.out.facts; obtain ⟨V, hV⟩ : ∃ V, w3.setCell ⟨w2.heap.size, 1, none⟩ (.slice A1 k1 c4) = V := ⟨_, rfl⟩; have HBV : Hid (BoxR V w2.heap.size N (.slice A1 k1 c4)) := by { rw [← hV]; exact Lib.hid (HB3.out.stored1 _) }; have bV : Below w2.heap.size w2 V := by { rw [← hV]; exact belowSet (bX.trans (b3.mono (by omega))) _ _ (Nat.le_refl _) }; have HOV : Hid (OwnP V (w2.heap.size + 1) (.slice A1 k1 c4) l) := by { rw [← hV]; exact Lib.hid (HO1.out.setCell (by omega)) }; have HKV : Hid (l.length = k1) := HK1; have hzV : w2.heap.size + 1 ≤ V.heap.size := by { rw [← hV]; have h3 := b3.size; rw [World.size_alloc] at h3; simp; omega }; obtain ⟨v0, v1, v2, v3⟩ := HBV.out.facts; obtain ⟨s0, s1, _, _⟩ := (HB1.out.below bV).facts; have HBPV := Lib.hid (HB.out.below bV))
    | (at_builtin; refine appPs _ rfl (.tmp 33) (.tmp 35) rfl (w2.heap.size + 1) _ l rfl HOV.out B k d m rfl HM.out HBPV.out (by have := HN.out; omega) (by omega) ?_; intro A5 k5 c5 w5 HO5 HK5 b5; have HB5 : Hid (BoxR w5 w2.heap.size N (.slice A1 k1 c4)) := Lib.hid ((b5.block _ (by omega)).trans HBV.out); obtain ⟨r0, r1, r2, r3⟩ := HB5.out.facts)
    | fail)
  have HO6 := HO5.out.setCell (i := 1) (u := .slice A5 k5 c5) (show w2.heap.size < w2.heap.size + 1 by omega)
  obtain ⟨A6, c6, e, hr6, _⟩ := HO6.rd
  injection e with e1 e2 e3
  rw [HK5.out] at e2
  subst e1; subst e3
  clear e2
  have b6 : Below w2.heap.size w2 (w5.setCell ⟨w2.heap.size, 1, none⟩ (.slice A5 k5 c5)) := belowSet (bV.trans (b5.mono (by omega))) _ _ (Nat.le_refl _)
  have hb6 := belowThen hb2 b6
  have HB6 := Lib.hid (HB2.out.below b6)
  refine (HNO.out _ HK5.out _ _ _ hr6).mono ?_
  rintro e w7 ⟨A7, c7, rfl, hr7, b7⟩
  have HR7 := Lib.hid hr7; clear hr7
  have hb7 := belowThen hb6 b7
  have HB7 := Lib.hid (HB6.out.below b7)
  obtain ⟨p0, p1, p2, p3⟩ := HB7.out.facts
  go_wp2
  refine bodyPost_ret (ResE (HB7.out.stored N (.slice A7 L.length c7)) rfl _ rfl) rfl ?_
  exact ⟨_, _, rfl, HR7.out.stored HB7.out _ _, (hb7.setCell (show w.heap.size ≤ w.heap.size + 1 + 1 by omega) _).setCell (show w.heap.size ≤ w.heap.size + 1 + 1 by omega) _⟩
end Go.Proofs.Ytpfdhjmhoggioaa

namespace Go.Proofs.Ytpfdhjmhoggioaa
open Go.RowKit Go.Maps

set_option maxRecDepth 100000 in
set_option maxHeartbeats 4000000 in
theorem lawJoinsBig (N M : Int) (n k : Nat) (h : 300 < n ∨ 300 < k) (A B : Option Addr) (c d : Nat) (w : World) :
    Calls Try.prog 4 #[relV N A n c, relV M B k d] w fun e w' => e = .returned (.bool true) ∧ Below w.heap.size w w' := by
  obtain ⟨W, hW, hB0, hB1, hbW, hzW⟩ := twoBoxes w N M (.slice A n c) (.slice B k d)
  obtain ⟨c0, c1, _, _⟩ := hB0.facts
  obtain ⟨c2, c3, _, _⟩ := hB1.facts
  by_cases hn : 300 < n
  · have q1 : decide ((n : Int) > 300) = true := decide_eq_true (by omega)
    go_enter Try.func4, Try.ntmps4
    go_wp2_with fail
    refine (lExample _).mono ?_
    rintro e w1 ⟨rfl, b1⟩
    go_wp2
    go_ret
    exact ⟨rfl, belowThen hbW b1⟩
  · have q1 : decide ((n : Int) > 300) = false := by simp; omega
    have q2 : decide ((k : Int) > 300) = true := decide_eq_true (by omega)
    go_enter Try.func4, Try.ntmps4
    go_wp2_with fail
    refine (lExample _).mono ?_
    rintro e w1 ⟨rfl, b1⟩
    go_wp2
    go_ret
    exact ⟨rfl, belowThen hbW b1⟩

/-- What a call of two relations gives, whatever they share. -/
def Both (f : Nat) (N M : Int) (l m : Prs) (n k : Nat) (K : Int) (L : Prs) (q : Int) : Prop := ∀ A B c d w, Rp w A c l → Rp w B d m → Calls Try.prog f #[relV N A n c, relV M B k d] w (GivesE K L q w)

set_option maxRecDepth 100000 in
set_option maxHeartbeats 8000000 in
theorem lawJoinsWith (N M : Int) (l m : Prs) (n k : Nat) (hn : l.length = n) (hs : n ≤ 300) (hs' : k ≤ 300) (K : Int) (L : Prs) (q : Int) (J : Int) (C : Prs) (p : Int) (hl : L.length ≤ 4096) (hc : C.length ≤ 4096)
    (h1 : Both 16 N M l m n k K L q) (h2 : Both 17 N M l m n k K L q)
    (h3 : Both 18 N M l m n k J C p) (h4 : Both 19 N M l m n k J C p)
    (A B : Option Addr) (c d : Nat) (w : World) (ha : Rp w A c l) (hb : Rp w B d m) :
    Calls Try.prog 4 #[relV N A n c, relV M B k d] w fun e w' => e = .returned (.bool true) ∧ Below w.heap.size w w' := by
  obtain ⟨W, hW, hB0, hB1, hbW, hzW⟩ := twoBoxes w N M (.slice A n c) (.slice B k d)
  have HA := Lib.hid (ha.below hbW); clear ha
  have HB := Lib.hid (hb.below hbW); clear hb
  have HB0 := Lib.hid hB0; clear hB0
  have HB1 := Lib.hid hB1; clear hB1
  have H1 := Lib.hid h1; clear h1
  have H2 := Lib.hid h2; clear h2
  have H3 := Lib.hid h3; clear h3
  have H4 := Lib.hid h4; clear h4
  obtain ⟨nl, hnl⟩ : ∃ nl, L.length = nl := ⟨_, rfl⟩
  obtain ⟨nc, hnc⟩ : ∃ nc, C.length = nc := ⟨_, rfl⟩
  rw [hnl] at hl
  rw [hnc] at hc
  have HSL := Lib.hid (lSame K K L L nl nl hnl hnl true (by rw [sameIff]; exact ⟨rfl, rfl⟩) (by omega))
  have HSC := Lib.hid (lSame J J C C nc nc hnc hnc true (by rw [sameIff]; exact ⟨rfl, rfl⟩) (by omega))
  have HNL := Lib.hid hnl
  have HNC := Lib.hid hnc
  obtain ⟨I, hI⟩ : ∃ I, nrmN N l = I := ⟨_, rfl⟩
  obtain ⟨V, hV⟩ : ∃ V, invL N l = V := ⟨_, rfl⟩
  have hv : V.length ≤ 4096 := by
    rw [← hV]; unfold invL
    split
    · rename_i hv'
      obtain ⟨m, rfl, hm⟩ := okNat hv'
      have h1 := lenNrm (Int.toNat m) (invT (hasP l))
      have h2 := Nat.mul_le_mul hm hm
      simp only [Int.toNat_natCast] at h1 ⊢
      omega
    · simp
  obtain ⟨nv, hnv⟩ : ∃ nv, V.length = nv := ⟨_, rfl⟩
  rw [hnv] at hv
  have HVI := Lib.hid (iInverse N l n hn (by omega))
  have HVR := Lib.hid (rInverse N l n hn (by omega))
  rw [hI, hV] at HVI HVR
  have HSV := Lib.hid (lSame I I V V nv nv hnv hnv true (by rw [sameIff]; exact ⟨rfl, rfl⟩) (by omega))
  have HNV := Lib.hid hnv
  have q1 : decide ((n : Int) > 300) = false := by simp; omega
  have q2 : decide ((k : Int) > 300) = false := by simp; omega
  have qq : (q == q) = true := by simp
  have qp : (p == p) = true := by simp
  clear hn hnl hnc hI hV hnv
  obtain ⟨c0, c1, _, _⟩ := HB0.out.facts
  obtain ⟨c2, c3, _, _⟩ := HB1.out.facts
  go_enter Try.func4, Try.ntmps4
  go_wp2_with fail
  refine (H1.out A B c d _ HA.out HB.out).mono ?_
  rintro e w2 ⟨A2, d2, rfl, hr2, b2⟩
  rw [HNL.out]
  obtain ⟨X2, hX2⟩ : ∃ X, w2.alloc (.cells #[.int .i64 K, .slice A2 nl d2] 24) = X := ⟨_, rfl⟩
  have bX2 : Below w2.heap.size w2 X2 := by rw [← hX2]; exact belowAlloc _ _
  have HX2 : Hid (BoxR X2 w2.heap.size K (.slice A2 nl d2)) := by rw [← hX2]; exact Lib.hid (BoxR.new w2 K _)
  have HR2 := Lib.hid (hr2.below bX2); clear hr2
  have bb := belowThen b2 bX2
  have HB0 := Lib.hid (HB0.out.below bb)
  have HB1 := Lib.hid (HB1.out.below bb)
  have HA := Lib.hid (HA.out.below bb)
  have HB := Lib.hid (HB.out.below bb)
  have hb2 := belowThen hbW bb
  clear bb
  obtain ⟨c0, c1, _, _⟩ := HB0.out.facts
  obtain ⟨c2, c3, _, _⟩ := HB1.out.facts
  go_wp2_with fail
  refine (H2.out A B c d _ HA.out HB.out).mono ?_
  rintro e w3 ⟨A3, d3, rfl, hr3, b3⟩
  rw [HNL.out]
  obtain ⟨X3, hX3⟩ : ∃ X, w3.alloc (.cells #[.int .i64 K, .slice A3 nl d3] 24) = X := ⟨_, rfl⟩
  have bX3 : Below w3.heap.size w3 X3 := by rw [← hX3]; exact belowAlloc _ _
  have HX3 : Hid (BoxR X3 w3.heap.size K (.slice A3 nl d3)) := by rw [← hX3]; exact Lib.hid (BoxR.new w3 K _)
  have HR3 := Lib.hid (hr3.below bX3); clear hr3
  have bb := belowThen b3 bX3
  have HX2 := Lib.hid (HX2.out.below bb)
  have HR2 := Lib.hid (HR2.out.below bb)
  have HB0 := Lib.hid (HB0.out.below bb)
  have HB1 := Lib.hid (HB1.out.below bb)
  have HA := Lib.hid (HA.out.below bb)
  have HB := Lib.hid (HB.out.below bb)
  have hb3 := belowThen hb2 bb
  clear bb
  obtain ⟨c0, c1, _, _⟩ := HB0.out.facts
  obtain ⟨c2, c3, _, _⟩ := HB1.out.facts
  go_wp2_with fail
  refine (H3.out A B c d _ HA.out HB.out).mono ?_
  rintro e w4 ⟨A4, d4, rfl, hr4, b4⟩
  rw [HNC.out]
  obtain ⟨X4, hX4⟩ : ∃ X, w4.alloc (.cells #[.int .i64 J, .slice A4 nc d4] 24) = X := ⟨_, rfl⟩
  have bX4 : Below w4.heap.size w4 X4 := by rw [← hX4]; exact belowAlloc _ _
  have HX4 : Hid (BoxR X4 w4.heap.size J (.slice A4 nc d4)) := by rw [← hX4]; exact Lib.hid (BoxR.new w4 J _)
  have HR4 := Lib.hid (hr4.below bX4); clear hr4
  have bb := belowThen b4 bX4
  have HX2 := Lib.hid (HX2.out.below bb)
  have HR2 := Lib.hid (HR2.out.below bb)
  have HX3 := Lib.hid (HX3.out.below bb)
  have HR3 := Lib.hid (HR3.out.below bb)
  have HB0 := Lib.hid (HB0.out.below bb)
  have HB1 := Lib.hid (HB1.out.below bb)
  have HA := Lib.hid (HA.out.below bb)
  have HB := Lib.hid (HB.out.below bb)
  have hb4 := belowThen hb3 bb
  clear bb
  obtain ⟨c0, c1, _, _⟩ := HB0.out.facts
  obtain ⟨c2, c3, _, _⟩ := HB1.out.facts
  go_wp2_with fail
  refine (H4.out A B c d _ HA.out HB.out).mono ?_
  rintro e w5 ⟨A5, d5, rfl, hr5, b5⟩
  rw [HNC.out]
  obtain ⟨X5, hX5⟩ : ∃ X, w5.alloc (.cells #[.int .i64 J, .slice A5 nc d5] 24) = X := ⟨_, rfl⟩
  have bX5 : Below w5.heap.size w5 X5 := by rw [← hX5]; exact belowAlloc _ _
  have HX5 : Hid (BoxR X5 w5.heap.size J (.slice A5 nc d5)) := by rw [← hX5]; exact Lib.hid (BoxR.new w5 J _)
  have HR5 := Lib.hid (hr5.below bX5); clear hr5
  have bb := belowThen b5 bX5
  have HX2 := Lib.hid (HX2.out.below bb)
  have HR2 := Lib.hid (HR2.out.below bb)
  have HX3 := Lib.hid (HX3.out.below bb)
  have HR3 := Lib.hid (HR3.out.below bb)
  have HX4 := Lib.hid (HX4.out.below bb)
  have HR4 := Lib.hid (HR4.out.below bb)
  have HB0 := Lib.hid (HB0.out.below bb)
  have HA := Lib.hid (HA.out.below bb)
  have hb5 := belowThen hb4 bb
  clear bb
  obtain ⟨c0, c1, _, _⟩ := HB0.out.facts
  obtain ⟨s0, s1, _, _⟩ := HX2.out.facts
  obtain ⟨t0, t1, _, _⟩ := HX3.out.facts
  obtain ⟨u0, u1, _, _⟩ := HX4.out.facts
  obtain ⟨v0, v1, _, _⟩ := HX5.out.facts
  have g0 := HB0.out.lt
  have g2 := HX2.out.lt
  have g3 := HX3.out.lt
  have g4 := HX4.out.lt
  have g5 := HX5.out.lt
  have HKP := Lib.hid (show ∀ w', Below X5.heap.size X5 w' → w'.cell? ⟨w.heap.size, 0, none⟩ = some (.int .i64 N) ∧ w'.cell? ⟨w.heap.size, 1, none⟩ = some (.slice A n c) ∧ w'.cell? ⟨w2.heap.size, 0, none⟩ = some (.int .i64 K) ∧ w'.cell? ⟨w2.heap.size, 1, none⟩ = some (.slice A2 nl d2) ∧ w'.cell? ⟨w3.heap.size, 0, none⟩ = some (.int .i64 K) ∧ w'.cell? ⟨w3.heap.size, 1, none⟩ = some (.slice A3 nl d3) ∧ w'.cell? ⟨w4.heap.size, 0, none⟩ = some (.int .i64 J) ∧ w'.cell? ⟨w4.heap.size, 1, none⟩ = some (.slice A4 nc d4) ∧ w'.cell? ⟨w5.heap.size, 0, none⟩ = some (.int .i64 J) ∧ w'.cell? ⟨w5.heap.size, 1, none⟩ = some (.slice A5 nc d5) ∧ Below X5.heap.size X5 w' from fun w' b =>
    ⟨(b.cell (by exact g0)).trans c0, (b.cell (by exact g0)).trans c1, (b.cell (by exact g2)).trans s0, (b.cell (by exact g2)).trans s1, (b.cell (by exact g3)).trans t0, (b.cell (by exact g3)).trans t1, (b.cell (by exact g4)).trans u0, (b.cell (by exact g4)).trans u1, (b.cell (by exact g5)).trans v0, (b.cell (by exact g5)).trans v1, b⟩)
  have hbd : Below X5.heap.size X5 X5.drew := (Below.refl _ X5).drew
  clear c0 c1 s0 s1 t0 t1 u0 u1 v0 v1
  go_wp2_with fail
  go_region_held3 (fun w' => w'.cell? ⟨w.heap.size, 0, none⟩ = some (.int .i64 N) ∧ w'.cell? ⟨w.heap.size, 1, none⟩ = some (.slice A n c) ∧ w'.cell? ⟨w2.heap.size, 0, none⟩ = some (.int .i64 K) ∧ w'.cell? ⟨w2.heap.size, 1, none⟩ = some (.slice A2 nl d2) ∧ w'.cell? ⟨w3.heap.size, 0, none⟩ = some (.int .i64 K) ∧ w'.cell? ⟨w3.heap.size, 1, none⟩ = some (.slice A3 nl d3) ∧ w'.cell? ⟨w4.heap.size, 0, none⟩ = some (.int .i64 J) ∧ w'.cell? ⟨w4.heap.size, 1, none⟩ = some (.slice A4 nc d4) ∧ w'.cell? ⟨w5.heap.size, 0, none⟩ = some (.int .i64 J) ∧ w'.cell? ⟨w5.heap.size, 1, none⟩ = some (.slice A5 nc d5) ∧ Below X5.heap.size X5 w')
    (first
      | assumption
      | exact HKP.out _ hbd
      | exact HKP.out _ (belowThen (‹_ ∧ _ ∧ _ ∧ _ ∧ _ ∧ _ ∧ _ ∧ _ ∧ _ ∧ _ ∧ Below X5.heap.size X5 _›).2.2.2.2.2.2.2.2.2.2 bk))
    (first
      | (go_at_call 13; (with_reducible show Calls _ _ #[_, .agg #[_, .slice A3 nl d3]] _ _); refine (HSL.out A2 A3 d2 d3 _ (HR2.out.below (‹_ ∧ _ ∧ _ ∧ _ ∧ _ ∧ _ ∧ _ ∧ _ ∧ _ ∧ _ ∧ Below X5.heap.size X5 _›).2.2.2.2.2.2.2.2.2.2) (HR3.out.below (‹_ ∧ _ ∧ _ ∧ _ ∧ _ ∧ _ ∧ _ ∧ _ ∧ _ ∧ _ ∧ Below X5.heap.size X5 _›).2.2.2.2.2.2.2.2.2.2)).mono ?_; rintro e w6 ⟨rfl, bk⟩)
      | (go_at_call 13; (with_reducible show Calls _ _ #[_, .agg #[_, .slice A5 nc d5]] _ _); refine (HSC.out A4 A5 d4 d5 _ (HR4.out.below (‹_ ∧ _ ∧ _ ∧ _ ∧ _ ∧ _ ∧ _ ∧ _ ∧ _ ∧ _ ∧ Below X5.heap.size X5 _›).2.2.2.2.2.2.2.2.2.2) (HR5.out.below (‹_ ∧ _ ∧ _ ∧ _ ∧ _ ∧ _ ∧ _ ∧ _ ∧ _ ∧ _ ∧ Below X5.heap.size X5 _›).2.2.2.2.2.2.2.2.2.2)).mono ?_; rintro e w7 ⟨rfl, bk⟩)
      | (go_at_call 20; refine (HVI.out A c _ (HA.out.below (‹_ ∧ _ ∧ _ ∧ _ ∧ _ ∧ _ ∧ _ ∧ _ ∧ _ ∧ _ ∧ Below X5.heap.size X5 _›).2.2.2.2.2.2.2.2.2.2)).mono ?_; rintro e w8 ⟨A8, d8, rfl, hr8, bk⟩; rw [HNV.out]; have HR8 := Lib.hid hr8; clear hr8)
      | (go_at_call 21; refine (HVR.out A c _ (HA.out.below (‹_ ∧ _ ∧ _ ∧ _ ∧ _ ∧ _ ∧ _ ∧ _ ∧ _ ∧ _ ∧ Below X5.heap.size X5 _›).2.2.2.2.2.2.2.2.2.2)).mono ?_; rintro e w9 ⟨A9, d9, rfl, hr9, bk⟩; rw [HNV.out]; have HR9 := Lib.hid hr9; clear hr9; have HR8 := Lib.hid (HR8.out.below bk))
      | (go_at_call 13; (with_reducible show Calls _ _ #[_, .agg #[_, .slice A9 nv d9]] _ _); refine (HSV.out A8 A9 d8 d9 _ HR8.out HR9.out).mono ?_; rintro e w10 ⟨rfl, bk⟩)
      | (go_at_call 8; refine (lExample _).mono ?_; rintro e w11 ⟨rfl, bk⟩))
  have hb8 := belowThen hb5 (‹_ ∧ _ ∧ _ ∧ _ ∧ _ ∧ _ ∧ _ ∧ _ ∧ _ ∧ _ ∧ Below X5.heap.size X5 w11›).2.2.2.2.2.2.2.2.2.2
  go_wp2
  go_ret
  exact ⟨rfl, hb8⟩
theorem lawJoins (N M : Int) (l m : Prs) (n k : Nat) (hn : l.length = n) (hk : m.length = k) (A B : Option Addr) (c d : Nat) (w : World) (ha : Rp w A c l) (hb : Rp w B d m) :
    Calls Try.prog 4 #[relV N A n c, relV M B k d] w fun e w' => e = .returned (.bool true) ∧ Below w.heap.size w w' := by
  by_cases hbig : 300 < n ∨ 300 < k
  · exact lawJoinsBig N M n k hbig A B c d w
  have hs : n ≤ 300 := by omega
  have hs' : k ≤ 300 := by omega
  cases hm : mtch N l M m with
  | false =>
    exact lawJoinsWith N M l m n k hn hs hs' 0 [] 1 0 [] 1 (by simp) (by simp) (fun A B c d w h h' => iUnionNo N M l m n k hn hk hm A B c d w h h') (fun A B c d w h h' => rUnionNo N M l m n k hn hk hm A B c d w h h')
      (fun A B c d w h h' => iComposeNo N M l m n k hn hk hm A B c d w h h') (fun A B c d w h h' => rComposeNo N M l m n k hn hk hm A B c d w h h') A B c d w ha hb
  | true =>
    obtain ⟨h1, h2, rfl⟩ := mtchIff.1 hm
    obtain ⟨j, rfl, hj⟩ := okNat h1
    have h3 := Nat.mul_le_mul hj hj
    have h4 := lenNrm j (uniT (hasP l) (hasP m))
    have h5 := lenNrm j (cmpT j (hasP l) (hasP m))
    exact lawJoinsWith j j l m n k hn hs hs' j _ 0 j _ 0 (Nat.le_trans h4 h3) (Nat.le_trans h5 h3) (fun A B c d w h h' => iUnionYes j l m n k hj hn hk h1 h2 _ rfl (by omega) (by omega) A B c d w h h') (fun A B c d w h h' => rUnionYes j l m n k hj hn hk h1 h2 _ rfl (by omega) (by omega) A B c d w h h')
      (fun A B c d w h h' => iComposeYes j l m n k hj hn hk h1 h2 _ rfl (by omega) (by omega) A B c d w h h') (fun A B c d w h h' => rComposeYes j l m n k hj hn hk h1 h2 _ rfl A B c d w h h') A B c d w ha hb
end Go.Proofs.Ytpfdhjmhoggioaa

namespace Go.Proofs.Ytpfdhjmhoggioaa.relationJoins
open Go Go.ChangeShapes Go.WideShapes Go.ChangeAt Go.RowKit

set_option maxRecDepth 100000 in
theorem lifted (os : Os) (started : os.Started) (H : Type) (enc : TypeId × Value → H) :
    ReturnsInHanded {} Try.checked os 4 .any (Rows.relationJoinsSpec.pre6 enc Try.prog Try.f4 Rows.relationJoinsRow.domain false) (Rows.relationJoinsSpec.post enc Try.prog Try.f4 false true false false) := by
  refine returnsInHanded_of_change (C := Try.checked) ownKnob0 started (by kernel_rfl) Try.func4
    (ChangeSpec.witness6 (enc := enc) (C := Try.checked) false ⟨#[], #[.agg #[.int .i64 0, .slice none 0 0], .agg #[.int .i64 0, .slice none 0 0]], []⟩ 8 (by kernel_rfl) (by kernel_rfl) (by kernel_rfl) (by kernel_rfl)) ?_
  intro W base args ds gs before hval0 hW _ _
  have hval : ∀ (j : Nat) t v, Try.f4.params[j]? = some t → args[j]? = some v → Value.okWide Try.prog W .any base t v := hval0
  have hW' := hW
  obtain ⟨p, q, hA0, hV, rfl, _, _⟩ := hW
  have hA : DataW.TrodAll enc Try.prog W 0 (fun _ => true) true Try.f4.params.toList args.toList ds p := hA0
  rw [Try.params4] at hA hval
  obtain ⟨v0, vs0, d0, ds0, p0, q0, hargs, rfl, rfl, h0, s0⟩ := trodAll_cons hA
  obtain ⟨v1, vs1, d1, ds1, p1, q1, rfl, rfl, rfl, h1, s1⟩ := trodAll_cons s0
  obtain ⟨rfl, rfl, rfl⟩ := trodAll_nil s1
  obtain rfl : args = #[v0, v1] := by cases args; simp_all
  obtain ⟨rfl, rfl⟩ := trodVars_none hV
  have g0 := h0
  have g1 := h1
  obtain ⟨N0, A0, n0, c0, l0, rfl, e0, r0⟩ := openRel (hval 0 24 v0 rfl rfl) h0
  obtain ⟨N1, A1, n1, c1, l1, rfl, e1, r1⟩ := openRel (hval 1 24 v1 rfl rfl) h1
  clear hA0 hval0
  simp only [List.append_nil] at hW'
  refine (lawJoins N0 N1 l0 l1 n0 n1 e0 e1 A0 A1 c0 c1 W r0 r1).mono fun e W' ⟨he, hb⟩ => ?_
  subst he
  exact ⟨_, rfl, _, _, _, [], _, [], hW', trodAll_cons_mk (shut_bool Try.underlying4 _) trodAll_mk0, trodAll_cons_mk (Below.trod laidOut0 (by kernel_rfl) (of_decide_eq_true (by kernel_rfl)) g0 hb (fun y hy => by simpa using hW'.lt y (by simp [hy]))) (trodAll_cons_mk (Below.trod laidOut0 (by kernel_rfl) (of_decide_eq_true (by kernel_rfl)) g1 hb (fun y hy => by simpa using hW'.lt y (by simp [hy]))) (trodAll_mk0)), rfl, hb.frame _, fun h => by cases h⟩

theorem proved : Rows.RelationJoinsSaid :=
  OpenClaim.holds_of_wide 4 Try.f4 rfl rfl rfl rfl rfl rfl rfl ⟨rfl, rfl, rfl, rfl, rfl⟩ rfl rfl rfl rfl rfl (by kernel_rfl) Try.func4 (by kernel_rfl)
    (of_decide_eq_true (by kernel_rfl)) (by unfold Func.isWrapper; first | (rw [if_pos (by decide +kernel)]; kernel_rfl) | (rw [if_neg (by decide +kernel)]; exact ⟨rfl, rfl⟩))
    (fun os started H enc _ => lifted os started H enc)
#print axioms proved
end Go.Proofs.Ytpfdhjmhoggioaa.relationJoins
