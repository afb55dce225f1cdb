/-
  The contracts of the program's match, Union and Inverse.
-/
import Derived.Test.YtpfdhjmhoggioaaRDef
import Derived.Test.YtpfdhjmhoggioaaRRng
namespace Go.Proofs.Ytpfdhjmhoggioaa
open Go.RowKit Go.Maps

set_option maxHeartbeats 2000000 in
theorem iMatch (N M : Int) (l m : Prs) (n k : Nat) (hn : l.length = n) (hm : m.length = k) (r : Bool) (hr : mtch N l M m = r) (A B : Option Addr) (c d : Nat) (w : World) (ha : Rp w A c l) (hb : Rp w B d m) :
    Calls Try.prog 37 #[relV N A n c, relV M B k d] w fun e w' => e = .returned (.bool r) ∧ Below w.heap.size w w' := by
  obtain ⟨W, hW, hB0, hB1, hbW, _⟩ := twoBoxes w N M (.slice A n c) (.slice B k d)
  have HA := Lib.hid (ha.below hbW); clear ha
  have HB := Lib.hid (hb.below hbW); clear hb
  have HN := Lib.hid hn; clear hn
  have HM := Lib.hid hm; clear hm
  have HB0 := Lib.hid hB0; clear hB0
  have HB1 := Lib.hid hB1; clear hB1
  obtain ⟨c0, c1, _, _⟩ := HB0.out.facts
  obtain ⟨c2, c3, _, _⟩ := HB1.out.facts
  rcases hv : okR N l with _ | _
  · have HR := Lib.hid (show r = false by rw [← hr]; unfold mtch; rw [hv]; rfl)
    have HV := Lib.hid hv; clear hv hr
    go_enter Try.func37, Try.ntmps37
    go_wp2_with fail
    refine (iValid N l n HN.out false HV.out A c _ HA.out).mono ?_
    rintro e w1 ⟨rfl, b1⟩
    go_wp2
    go_ret
    exact ⟨retB HR.out.symm, hbW.trans (b1.mono hbW.size)⟩
  rcases hv' : okR M m with _ | _
  · have HR := Lib.hid (show r = false by rw [← hr]; unfold mtch; rw [hv, hv']; rfl)
    have HV := Lib.hid hv; clear hv hr
    have HV' := Lib.hid hv'; clear hv'
    go_enter Try.func37, Try.ntmps37
    go_wp2_with fail
    refine (iValid N l n HN.out true HV.out A c _ HA.out).mono ?_
    rintro e w1 ⟨rfl, b1⟩
    obtain ⟨d2, d3, _, _⟩ := (HB1.out.below b1).facts
    go_wp2_with fail
    refine (iValid M m k HM.out false HV'.out B d _ (HB.out.below b1)).mono ?_
    rintro e w2 ⟨rfl, b2⟩
    go_wp2
    go_ret
    exact ⟨retB HR.out.symm, (hbW.trans (b1.mono hbW.size)).trans (b2.mono (Nat.le_trans hbW.size b1.size))⟩
  have HR := Lib.hid (show r = (N == M) by rw [← hr]; unfold mtch; rw [hv, hv']; by_cases h : N = M <;> simp [h])
  have HV := Lib.hid hv; clear hv hr
  have HV' := Lib.hid hv'; clear hv'
  go_enter Try.func37, Try.ntmps37
  go_wp2_with fail
  refine (iValid N l n HN.out true HV.out A c _ HA.out).mono ?_
  rintro e w1 ⟨rfl, b1⟩
  obtain ⟨d2, d3, _, _⟩ := (HB1.out.below b1).facts
  go_wp2_with fail
  refine (iValid M m k HM.out true HV'.out B d _ (HB.out.below b1)).mono ?_
  rintro e w2 ⟨rfl, b2⟩
  obtain ⟨e0, e1, _, _⟩ := ((HB0.out.below b1).below b2).facts
  obtain ⟨e2, e3, _, _⟩ := ((HB1.out.below b1).below b2).facts
  go_wp2
  go_ret
  exact ⟨retB HR.out.symm, (hbW.trans (b1.mono hbW.size)).trans (b2.mono (Nat.le_trans hbW.size b1.size))⟩

/-- Two boxed relations and the box of the result. -/
theorem threeBoxes (w : World) (N M : Int) (u v : Value) : ∃ W, ((w.alloc (.cells #[.int .i64 N, u] 24)).alloc (.cells #[.int .i64 M, v] 24)).alloc (.cells #[.int .i64 0, .slice none 0 0] 24) = W ∧
    BoxR W w.heap.size N u ∧ BoxR W (w.heap.size + 1) M v ∧ BoxR W (w.heap.size + 2) 0 (.slice none 0 0) ∧ Below w.heap.size w W ∧ W.heap.size = w.heap.size + 3 := by
  obtain ⟨W, hW, h0, h1, hb, hs⟩ := twoBoxes w N M u v
  refine ⟨_, rfl, ?_, ?_, ?_, ?_, ?_⟩
  · rw [hW]; exact h0.alloc _
  · rw [hW]; exact h1.alloc _
  · have h := BoxR.new W 0 (.slice none 0 0)
    rw [hW, ← hs]; exact h
  · rw [hW]; exact hb.alloc hb.size _
  · rw [hW, World.size_alloc, hs]
theorem tabUni {n : Nat} {S T : Int → Int → Bool} {f g : Nat → Nat → Bool} (h : TabS n S f) (h' : TabS n T g) : TabS n (fun x y => S x y || T x y) (uniT f g) := fun x y => by
  rw [Bool.or_eq_true, h, h']
  constructor
  · rintro (⟨a, b, h1, h2, h3, h4, h5⟩ | ⟨a, b, h1, h2, h3, h4, h5⟩)
    · exact ⟨a, b, h1, h2, h3, h4, by unfold uniT; rw [h5]; rfl⟩
    · exact ⟨a, b, h1, h2, h3, h4, by unfold uniT; rw [h5]; simp⟩
  · rintro ⟨a, b, h1, h2, h3, h4, h5⟩
    unfold uniT at h5
    rw [Bool.or_eq_true] at h5
    rcases h5 with h5 | h5
    · exact .inl ⟨a, b, h1, h2, h3, h4, h5⟩
    · exact .inr ⟨a, b, h1, h2, h3, h4, h5⟩

set_option maxHeartbeats 2000000 in
theorem iUnionNo (N M : Int) (l m : Prs) (n k : Nat) (hn : l.length = n) (hm : m.length = k) (hr : mtch N l M m = false) (A B : Option Addr) (c d : Nat) (w : World) (ha : Rp w A c l) (hb : Rp w B d m) :
    Calls Try.prog 16 #[relV N A n c, relV M B k d] w (GivesE 0 [] 1 w) := by
  obtain ⟨W, hW, hB0, hB1, hB2, hbW, _⟩ := threeBoxes w N M (.slice A n c) (.slice B k d)
  have HA := Lib.hid (ha.below hbW); clear ha
  have HB := Lib.hid (hb.below hbW); clear hb
  have HN := Lib.hid hn; clear hn
  have HM := Lib.hid hm; clear hm
  have HR := Lib.hid hr; clear hr
  have HB2 := Lib.hid hB2; clear hB2
  obtain ⟨c0, c1, _, _⟩ := hB0.facts
  obtain ⟨c2, c3, _, _⟩ := hB1.facts
  clear hB0 hB1
  go_enter Try.func16, Try.ntmps16
  go_wp2_with fail
  refine (iMatch N M l m n k HN.out HM.out false HR.out A B c d _ HA.out HB.out).mono ?_
  rintro e w1 ⟨rfl, b1⟩
  have HB3 := Lib.hid (HB2.out.below b1)
  obtain ⟨d2, d3, f2, f3⟩ := HB3.out.facts
  go_wp2
  refine bodyPost_ret (ResE (HB3.out.stored 0 (.slice none 0 0)) rfl _ rfl) rfl ?_
  exact ⟨none, 0, rfl, Rp.nil, ((hbW.trans (b1.mono hbW.size)).setCell (show w.heap.size ≤ w.heap.size + 1 + 1 by omega) _).setCell (show w.heap.size ≤ w.heap.size + 1 + 1 by omega) _⟩

set_option maxHeartbeats 2000000 in
theorem iUnionYes (N : Nat) (l m : Prs) (n k : Nat) (hN : N ≤ 64) (hn : l.length = n) (hm : m.length = k) (hl : okR N l = true) (hl' : okR N m = true) (L : Prs) (hL : nrm N (uniT (hasP l) (hasP m)) = L) (hs : n ≤ 30000) (hs' : k ≤ 30000) (A B : Option Addr) (c d : Nat) (w : World) (ha : Rp w A c l) (hb : Rp w B d m) :
    Calls Try.prog 16 #[relV N A n c, relV N B k d] w (GivesE N L 0 w) := by
  obtain ⟨W, hW, hB0, hB1, hB2, hbW, _⟩ := threeBoxes w N N (.slice A n c) (.slice B k d)
  have HA := Lib.hid (ha.below hbW); clear ha
  have HB := Lib.hid (hb.below hbW); clear hb
  have HN := Lib.hid hn; clear hn
  have HM := Lib.hid hm; clear hm
  have HR := Lib.hid (mtchIff.2 ⟨hl, hl', rfl⟩)
  have HW1 := Lib.hid (okWf hl)
  have HW2 := Lib.hid (okWf hl')
  have HT := Lib.hid (tabUni (tabOf hl) (tabOf hl'))
  have HL := Lib.hid hL; clear hL hl hl'
  have HB0 := Lib.hid hB0; clear hB0
  have HB1 := Lib.hid hB1; clear hB1
  have HB2 := Lib.hid hB2; clear hB2
  obtain ⟨c0, c1, _, _⟩ := HB0.out.facts
  obtain ⟨c2, c3, _, _⟩ := HB1.out.facts
  go_enter Try.func16, Try.ntmps16
  go_wp2_with fail
  refine (iMatch N N l m n k HN.out HM.out true HR.out A B c d _ HA.out HB.out).mono ?_
  rintro e w1 ⟨rfl, b1⟩
  have hb1 := hbW.trans (b1.mono hbW.size)
  have HB0 := Lib.hid (HB0.out.below b1)
  have HB1 := Lib.hid (HB1.out.below b1)
  have HB2 := Lib.hid (HB2.out.below b1)
  have HA := Lib.hid (HA.out.below b1)
  have HB := Lib.hid (HB.out.below b1)
  obtain ⟨c0, c1, _, _⟩ := HB0.out.facts
  go_wp2_with fail
  refine (iPairs N l n HN.out HW1.out (by omega) A c _ HA.out).mono ?_
  rintro e w2 ⟨p, rfl, m2, hp, b2⟩
  have hb2 := hb1.trans (b2.mono hb1.size)
  have HB0 := Lib.hid (HB0.out.below b2)
  have HB1 := Lib.hid (HB1.out.below b2)
  have HB2 := Lib.hid (HB2.out.below b2)
  have HB := Lib.hid (HB.out.below b2)
  have HMP := Lib.hid m2; clear m2
  obtain ⟨c2, c3, _, _⟩ := HB1.out.facts
  go_wp2_with fail
  refine (iPairs N m k HM.out HW2.out (by omega) B d _ HB.out).mono ?_
  rintro e w3 ⟨q, rfl, m3, hq, b3⟩
  have hb3 := hb2.trans (b3.mono hb2.size)
  have HB0 := Lib.hid (HB0.out.below b3)
  have HB2 := Lib.hid (HB2.out.below b3)
  have hpl := HMP.out.lt
  have HMP := Lib.hid (HMP.out.below b3)
  have HMQ := Lib.hid m3; clear m3
  go_wp2_with fail
  refine (iCopy p q n k _ _ (by omega) (by omega) (by omega) _ HMP.out HMQ.out).mono ?_
  rintro e w4 ⟨rfl, m4, c4⟩
  have HM4 := Lib.hid m4; clear m4
  have hwp : w.heap.size + 3 ≤ p := by have := b1.size; omega
  have hb4 : Below w.heap.size w w4 := hb3.trans ⟨c4.os, c4.tape, c4.output, c4.size, fun g hg => c4.block g (by have := hb3.size; omega) (by omega)⟩
  have HB0 : Hid (BoxR w4 w.heap.size N (.slice A n c)) := Lib.hid ((c4.block _ HB0.out.lt (by omega)).trans HB0.out)
  have HB2 : Hid (BoxR w4 (w.heap.size + 2) 0 (.slice none 0 0)) := Lib.hid ((c4.block _ HB2.out.lt (by omega)).trans HB2.out)
  clear c4
  obtain ⟨c0, c1, _, _⟩ := HB0.out.facts
  go_wp2_with fail
  refine (iNormalT N p (n + k) _ _ hN HT.out L HL.out (by omega) _ HM4.out).mono ?_
  rintro e w5 ⟨A', c', rfl, hr, b5⟩
  have HRP := Lib.hid hr; clear hr
  have HB2 := Lib.hid (HB2.out.below b5)
  have hb5 := hb4.trans (b5.mono hb4.size)
  obtain ⟨d2, d3, f2, f3⟩ := HB2.out.facts
  go_wp2
  refine bodyPost_ret (ResE (HB2.out.stored N (.slice A' L.length c')) rfl _ rfl) rfl ?_
  exact ⟨A', c', rfl, HRP.out.stored HB2.out _ _, (hb5.setCell (show w.heap.size ≤ w.heap.size + 1 + 1 by omega) _).setCell (show w.heap.size ≤ w.heap.size + 1 + 1 by omega) _⟩
end Go.Proofs.Ytpfdhjmhoggioaa
