/-
  The contract of the law's own function within, where it answers yes.
-/
import Derived.Test.YtichbgnmagnokaaRLawR
namespace Go.Proofs.Ytichbgnmagnokaa
open Go.RowKit Go.Maps

set_option maxRecDepth 100000 in
set_option maxHeartbeats 4000000 in
theorem lWithin (N : Nat) (l m : Prs) (n k : Nat) (hN : N ≤ 64) (hn : l.length = n) (hk : m.length = k) (h1 : n ≤ 5000) (h2 : k ≤ 5000) (hv : okR N l = true) (hv' : okR N m = true) (hsub : ∀ a b, a < N → b < N → hasP m a b = true → hasP l a b = true)
    (A B : Option Addr) (c d : Nat) (w : World) (ha : Rp w A c l) (hb : Rp w B d m) :
    Calls Try.prog 33 #[relV N A n c, relV N B k d] w fun e w' => e = .returned (.bool true) ∧ Below w.heap.size w w' := by
  obtain ⟨W, hW, hB0, hB1, hbW, hzW⟩ := twoBoxes w N N (.slice A n c) (.slice B k d)
  have HA := Lib.hid (ha.below hbW); clear ha
  have HB := Lib.hid (hb.below hbW); clear hb
  have HN := Lib.hid hn; clear hn
  have HK := Lib.hid hk; clear hk
  have HB0 := Lib.hid hB0; clear hB0
  have HB1 := Lib.hid hB1; clear hB1
  obtain ⟨u, hu⟩ : ∃ u, nrm N (hasP l) = u := ⟨_, rfl⟩
  have hu2 : nrm N (uniT (hasP l) (hasP m)) = u := by
    rw [← hu]
    refine nrmCongr fun a b ha hb => ?_
    unfold uniT
    cases e : hasP m a b
    · simp
    · rw [hsub a b ha hb e]; rfl
  obtain ⟨nu, eu⟩ : ∃ x, u.length = x := ⟨_, rfl⟩
  have su : nu ≤ 4096 := by
    have h3 := lenNrm N (hasP l)
    have hNN : N * N ≤ 64 * 64 := Nat.mul_le_mul hN hN
    rw [hu, eu] at h3
    omega
  have HUN := Lib.hid (iUnionYes N l m n k hN HN.out HK.out hv hv' u hu2 (by omega) (by omega))
  have HNO := Lib.hid (iNormalTop N l n HN.out (by omega))
  rw [show nrmN N l = N by unfold nrmN; rw [hv]; rfl, show nrmL N l = u by unfold nrmL; rw [hv]; exact hu] at HNO
  have HSU := Lib.hid (lSame N N u u nu nu eu eu true (by rw [sameIff]; exact ⟨rfl, rfl⟩) (by omega))
  have EU := Lib.hid eu
  clear hv hv' hsub hu hu2 eu
  obtain ⟨c0, c1, _, _⟩ := HB0.out.facts
  obtain ⟨c2, c3, _, _⟩ := HB1.out.facts
  go_enter Try.func33, Try.ntmps33
  go_wp2_with fail
  refine (HUN.out A B c d _ HA.out HB.out).mono ?_
  rintro e w2 ⟨A2, d2, rfl, hr2, b2⟩
  rw [EU.out]
  obtain ⟨X, hX⟩ : ∃ X, w2.alloc (.cells #[.int .i64 N, .slice A2 nu d2] 24) = X := ⟨_, rfl⟩
  have bX : Below w2.heap.size w2 X := by rw [← hX]; exact belowAlloc _ _
  have HB2 : Hid (BoxR X w2.heap.size N (.slice A2 nu d2)) := by rw [← hX]; exact Lib.hid (BoxR.new w2 N _)
  have HR2 := Lib.hid (hr2.below bX); clear hr2
  have HB0 := Lib.hid ((HB0.out.below b2).below bX)
  have HA := Lib.hid ((HA.out.below b2).below bX)
  have hb2 := belowThen (belowThen hbW b2) bX
  have hl0 := HB0.out.lt
  have hl2 := HB2.out.lt
  obtain ⟨c0, c1, _, _⟩ := HB0.out.facts
  obtain ⟨c2, c3, _, _⟩ := HB2.out.facts
  have HKP := Lib.hid (show ∀ w', Below X.heap.size X w' → w'.cell? ⟨w.heap.size, 0, none⟩ = some (.int .i64 N) ∧ w'.cell? ⟨w.heap.size, 1, none⟩ = some (.slice A n c) ∧ w'.cell? ⟨w2.heap.size, 0, none⟩ = some (.int .i64 N) ∧ w'.cell? ⟨w2.heap.size, 1, none⟩ = some (.slice A2 nu d2) ∧ Below X.heap.size X w' from fun w' b =>
    ⟨(b.cell (by exact hl0)).trans c0, (b.cell (by exact hl0)).trans c1, (b.cell (by exact hl2)).trans c2, (b.cell (by exact hl2)).trans c3, b⟩)
  have hbd : Below X.heap.size X X.drew := (Below.refl _ X).drew
  clear c0 c1 c2 c3
  go_wp2_with fail
  go_region_held3 (fun w' => w'.cell? ⟨w.heap.size, 0, none⟩ = some (.int .i64 N) ∧ w'.cell? ⟨w.heap.size, 1, none⟩ = some (.slice A n c) ∧ w'.cell? ⟨w2.heap.size, 0, none⟩ = some (.int .i64 N) ∧ w'.cell? ⟨w2.heap.size, 1, none⟩ = some (.slice A2 nu d2) ∧ Below X.heap.size X w')
    (first
      | assumption
      | exact HKP.out _ hbd
      | exact HKP.out _ (belowThen (‹_ ∧ _ ∧ _ ∧ _ ∧ Below X.heap.size X _›).2.2.2.2 bk))
    (first
      | (go_at_call 16; refine (HNO.out A c _ (HA.out.below (‹_ ∧ _ ∧ _ ∧ _ ∧ Below X.heap.size X _›).2.2.2.2)).mono ?_; rintro e w3 ⟨A3, d3, rfl, hr3, bk⟩; rw [EU.out]; have HR3 := Lib.hid hr3; clear hr3)
      | (go_at_call 15; refine (HSU.out A2 A3 d2 d3 _ (HR2.out.below (‹_ ∧ _ ∧ _ ∧ _ ∧ Below X.heap.size X _›).2.2.2.2) HR3.out).mono ?_; rintro e w4 ⟨rfl, bk⟩))
  have hb4 := belowThen hb2 (‹_ ∧ _ ∧ _ ∧ _ ∧ Below X.heap.size X w4›).2.2.2.2
  go_wp2
  go_ret
  exact ⟨rfl, hb4⟩
end Go.Proofs.Ytichbgnmagnokaa
