/-
  The contracts of the program's Normal, match and Union.
-/
import Derived.Test.YtpfdhjmhoggioaaRDef
import Derived.Test.YtpfdhjmhoggioaaRNorm
import Derived.Deep.RegionHeld3
namespace Go.Proofs.Ytpfdhjmhoggioaa
open Go.RowKit Go.Maps

/-- The set S holds just the pairs of the table f below n. -/
def TabS (n : Nat) (S : Int → Int → Bool) (f : Nat → Nat → Bool) : Prop := ∀ x y, S x y = true ↔ ∃ a b : Nat, x = (a : Int) ∧ y = (b : Int) ∧ a < n ∧ b < n ∧ f a b = true
theorem wfNrm {n : Nat} (hn : n ≤ 64) (f : Nat → Nat → Bool) : wfL (nrm n f) := fun p hp => by
  obtain ⟨x, y⟩ := p
  obtain ⟨d, c, h1, h2, h3, h4, _⟩ := nrmMem.1 hp
  exact ⟨wfSmall (by show 0 ≤ x; omega) (by show x ≤ _; omega), wfSmall (by show 0 ≤ y; omega) (by show y ≤ _; omega)⟩
theorem okNrm {n : Nat} (hn : n ≤ 64) (f : Nat → Nat → Bool) : okR n (nrm n f) = true := by
  rw [okIff]
  refine ⟨by omega, by omega, fun p hp => ?_⟩
  obtain ⟨x, y⟩ := p
  obtain ⟨d, c, h1, h2, h3, h4, _⟩ := nrmMem.1 hp
  unfold inR
  show 0 ≤ x ∧ x < _ ∧ 0 ≤ y ∧ y < _
  omega
theorem tabOf {n : Nat} {l : Prs} (h : okR n l = true) : TabS n (memP l) (hasP l) := fun x y => by
  obtain ⟨_, _, h3⟩ := okIff.1 h
  unfold memP hasP
  rw [decide_eq_true_iff]
  constructor
  · intro hp
    have := h3 _ hp
    unfold inR at this
    refine ⟨x.toNat, y.toNat, by omega, by omega, by omega, by omega, ?_⟩
    rw [decide_eq_true_iff, Int.toNat_of_nonneg (by omega), Int.toNat_of_nonneg (by omega)]
    exact hp
  · rintro ⟨a, b, rfl, rfl, _, _, hp⟩
    rwa [decide_eq_true_iff] at hp
theorem iNormalT (n b m : Nat) (S : Int → Int → Bool) (f : Nat → Nat → Bool) (hn : n ≤ 64) (hT : TabS n S f) (l : Prs) (hl : nrm n f = l) (hs : m ≤ 1000000) (w : World) (h : MapP w b m S) :
    Calls Try.prog 33 #[.int .i64 n, .map (some b)] w (GivesR n l w) := by
  subst hl
  exact iNormal n b m S _ (nrmSrt n f) (fun x y _ => by rw [nrmMem, hT x y]) (wfNrm hn f) hs w h
/-- The same pairs: the same table. -/
theorem hasNrmP {n : Nat} {f : Nat → Nat → Bool} {a b : Nat} (ha : a < n) (hb : b < n) : hasP (nrm n f) a b = f a b := hasNrm ha hb


set_option maxHeartbeats 2000000 in
theorem iNormalTop (N : Int) (l : Prs) (n : Nat) (hn : l.length = n) (hs : n ≤ 65536) (A : Option Addr) (c : Nat) (w : World) (ha : Rp w A c l) :
    Calls Try.prog 14 #[relV N A n c] w (GivesR (nrmN N l) (nrmL N l) w) := by
  have HA := Lib.hid ha; clear ha
  have HN := Lib.hid hn; clear hn
  obtain ⟨W, hW⟩ : ∃ W, (w.alloc (.cells #[.int .i64 N, .slice A n c] 24)).alloc (.cells #[.int .i64 0, .slice none 0 0] 24) = W := ⟨_, rfl⟩
  have hB0 : BoxR W w.heap.size N (.slice A n c) := by rw [← hW]; exact (BoxR.new w N _).alloc _
  have hB1 : BoxR W (w.heap.size + 1) 0 (.slice none 0 0) := by
    have h := BoxR.new (w.alloc (.cells #[.int .i64 N, .slice A n c] 24)) 0 (.slice none 0 0)
    rw [World.size_alloc, hW] at h
    exact h
  have hbW : Below w.heap.size w W := by rw [← hW]; exact (belowAlloc w _).alloc (by simp) _
  have HA1 := Lib.hid (HA.out.below hbW)
  have HB0 := Lib.hid hB0; clear hB0
  have HB1 := Lib.hid hB1; clear hB1
  obtain ⟨c0, c1, _, _⟩ := HB0.out.facts
  go_enter Try.func14, Try.ntmps14
  rcases hv : okR N l with _ | _
  · have HV := Lib.hid hv
    have e1 : nrmN N l = 0 := by unfold nrmN; rw [hv]; rfl
    have e2 : nrmL N l = [] := by unfold nrmL; rw [hv]; rfl
    rw [e1, e2]
    clear hv e1 e2
    go_wp2_with fail
    refine (iValid N l n HN.out false HV.out A c _ HA1.out).mono ?_
    rintro e w1 ⟨rfl, b1⟩
    have HB1 := Lib.hid (HB1.out.below b1)
    obtain ⟨c2, c3, f2, f3⟩ := HB1.out.facts
    go_wp2
    refine bodyPost_ret (ResR (HB1.out.stored 0 (.slice none 0 0)) rfl _ rfl) rfl ?_
    exact ⟨none, 0, rfl, Rp.nil, ((hbW.trans (b1.mono hbW.size)).setCell (Nat.le_succ _) _).setCell (Nat.le_succ _) _⟩
  · have HV := Lib.hid hv
    obtain ⟨k, rfl, hk⟩ := okNat hv
    have e1 : nrmN k l = k := by unfold nrmN; rw [hv]; rfl
    obtain ⟨L, e2⟩ : ∃ L, nrm k (hasP l) = L := ⟨_, rfl⟩
    have e3 : nrmL k l = L := by unfold nrmL; rw [hv, ← e2]; rfl
    rw [e1, e3]
    have HL := Lib.hid e2
    have HT := Lib.hid (tabOf hv)
    have HW := Lib.hid (okWf hv)
    clear hv e1 e2 e3
    go_wp2_with fail
    refine (iValid k l n HN.out true HV.out A c _ HA1.out).mono ?_
    rintro e w1 ⟨rfl, b1⟩
    have HB0 := Lib.hid (HB0.out.below b1)
    have HB1 := Lib.hid (HB1.out.below b1)
    have HA2 := Lib.hid (HA1.out.below b1)
    have hbw := hbW.trans (b1.mono hbW.size)
    obtain ⟨c0, c1, _, _⟩ := HB0.out.facts
    obtain ⟨c2, c3, f2, f3⟩ := HB1.out.facts
    go_wp2
    have HA3 : Hid (Rp w1.drew A c l) := Lib.hid (HA2.out.drewN 1)
    have HB2 : Hid (BoxR w1.drew w.heap.size k (.slice A n c)) := Lib.hid HB0.out
    have HB3 : Hid (BoxR w1.drew (w.heap.size + 1) 0 (.slice none 0 0)) := Lib.hid HB1.out
    go_region_held3 (fun w' => w'.cell? ⟨w.heap.size, 0, none⟩ = some (.int .i64 k) ∧ w'.cell? ⟨w.heap.size, 1, none⟩ = some (.slice A n c))
      (first | exact KR _ _ | assumption | simp [*])
      (first
        | (go_at_call 34; refine (iPairs k l n HN.out HW.out hs A c _ HA3.out).mono ?_; (rintro e w2 ⟨b, rfl, hM, hb, b2⟩); have HM := Lib.hid hM; have HB4 := Lib.hid (HB2.out.below b2); have HB5 := Lib.hid (HB3.out.below b2); obtain ⟨d0, d1, _, _⟩ := HB4.out.facts)
        | (go_at_call 33; refine (iNormalT k b n _ _ hk HT.out L HL.out (by omega) _ HM.out).mono ?_; (rintro e w3 ⟨A', c', rfl, hr, b3⟩); have HR := Lib.hid hr; have HB6 := Lib.hid (HB4.out.below b3); have HB7 := Lib.hid (HB5.out.below b3); obtain ⟨d2, d3, _, _⟩ := HB6.out.facts; obtain ⟨c4, c5, f4, f5⟩ := HB7.out.facts; have KR := keepR HB6.out (show w.heap.size ≠ w.heap.size + 1 by omega)))
    have hbz := ((hbw.trans ((belowN w1 1).mono hbw.size)).trans (b2.mono hbw.size)).trans (b3.mono (Nat.le_trans hbw.size b2.size))
    go_wp2
    refine bodyPost_ret (ResR (HB7.out.stored _ _) rfl _ rfl) rfl ?_
    exact ⟨A', c', rfl, HR.out.stored HB7.out _ _, (hbz.setCell (Nat.le_succ _) _).setCell (Nat.le_succ _) _⟩
end Go.Proofs.Ytpfdhjmhoggioaa
