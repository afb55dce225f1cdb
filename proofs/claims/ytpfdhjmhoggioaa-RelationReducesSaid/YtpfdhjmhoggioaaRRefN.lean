/-
  The contracts of the reference's Normal, Closure and Acyclic.
-/
import Derived.Test.YtpfdhjmhoggioaaRRefC
import Derived.Deep.RegionHeld3
namespace Go.Proofs.Ytpfdhjmhoggioaa
open Go.RowKit Go.Maps

set_option maxRecDepth 100000 in
set_option maxHeartbeats 2000000 in
theorem rClosure (N : Int) (l : Prs) (n : Nat) (hn : l.length = n) (A : Option Addr) (c : Nat) (w : World) (ha : Rp w A c l) :
    Calls Try.prog 28 #[relV N A n c] w (GivesR (nrmN N l) (cloL N l) w) := by
  have HN := Lib.hid hn; clear hn
  obtain ⟨W, hW, hB0, hB1, hbW, hzW⟩ := twoBoxes w N 0 (.slice A n c) (.slice none 0 0)
  have HA1 := Lib.hid (ha.below hbW); clear ha
  have HB0 := Lib.hid hB0; clear hB0
  have HB1 := Lib.hid hB1; clear hB1
  obtain ⟨c0, c1, _, _⟩ := HB0.out.facts
  go_enter Try.func28, Try.ntmps28
  rcases hv : okR N l with _ | _
  · have HV := Lib.hid hv
    have e1 : nrmN N l = 0 := by unfold nrmN; rw [hv]; rfl
    have e2 : cloL N l = [] := by unfold cloL; rw [hv]; rfl
    rw [e1, e2]
    clear hv e1 e2
    go_wp2_with fail
    refine (rValid N l n HN.out false HV.out A c _ HA1.out).mono ?_
    rintro e w1 ⟨rfl, b1⟩
    have HB1 := Lib.hid (HB1.out.below b1)
    obtain ⟨c2, c3, f2, f3⟩ := HB1.out.facts
    go_wp2
    refine bodyPost_ret (ResR (HB1.out.stored 0 (.slice none 0 0)) rfl _ rfl) rfl ?_
    exact ⟨none, 0, rfl, Rp.nil, ((hbW.trans (b1.mono hbW.size)).setCell (Nat.le_succ _) _).setCell (Nat.le_succ _) _⟩
  · have HV := Lib.hid hv
    obtain ⟨k, rfl, hk⟩ := okNat hv
    have e1 : nrmN k l = k := by unfold nrmN; rw [hv]; rfl
    obtain ⟨L, e2⟩ : ∃ L, nrm k (tcT k (hasP l)) = L := ⟨_, rfl⟩
    have e3 : cloL k l = L := by unfold cloL; rw [hv, ← e2]; rfl
    rw [e1, e3]
    obtain ⟨M, hM⟩ : ∃ M, k * k = M := ⟨_, rfl⟩
    have HT := Lib.hid (fun w' ha' => rClosed k hk l n HN.out hv M hM A c w' ha')
    have HL := Lib.hid (fun g w' hr => rListed k hk (tcT k (hasP l)) M hM L e2 g w' hr)
    clear hv e1 e2 e3
    go_wp2_with fail
    refine (rValid k l n HN.out true HV.out A c _ HA1.out).mono ?_
    rintro e w1 ⟨rfl, b1⟩
    have HB0 := Lib.hid (HB0.out.below b1)
    have HB1 := Lib.hid (HB1.out.below b1)
    have HA2 := Lib.hid (HA1.out.below b1)
    have hbw := hbW.trans (b1.mono hbW.size)
    obtain ⟨c0, c1, _, _⟩ := HB0.out.facts
    obtain ⟨c2, c3, f2, f3⟩ := HB1.out.facts
    go_wp2
    have HA3 : Hid (Rp w1.drew A c l) := Lib.hid (HA2.out.drewN 1)
    have HB2 : Hid (BoxR w1.drew w.heap.size k (.slice A n c)) := Lib.hid HB0.out
    have HB3 : Hid (BoxR w1.drew (w.heap.size + 1) 0 (.slice none 0 0)) := Lib.hid HB1.out
    go_region_held3 (fun w' => w'.cell? ⟨w.heap.size, 0, none⟩ = some (.int .i64 k) ∧ w'.cell? ⟨w.heap.size, 1, none⟩ = some (.slice A n c))
      (first | exact KR _ _ | assumption | simp [*])
      (first
        | (go_at_call 45; refine (HT.out _ HA3.out).mono ?_; (rintro e w2 ⟨g, rfl, hM, hb, b2⟩); have HM := Lib.hid hM; have HB4 := Lib.hid (HB2.out.below b2); have HB5 := Lib.hid (HB3.out.below b2); obtain ⟨d0, d1, _, _⟩ := HB4.out.facts)
        | (go_at_call 35; refine (HL.out _ _ HM.out).mono ?_; (rintro e w3 ⟨A', c', rfl, hr, b3⟩); have HR := Lib.hid hr; have HB6 := Lib.hid (HB4.out.below b3); have HB7 := Lib.hid (HB5.out.below b3); obtain ⟨d2, d3, _, _⟩ := HB6.out.facts; obtain ⟨c4, c5, f4, f5⟩ := HB7.out.facts; have KR := keepR HB6.out (show w.heap.size ≠ w.heap.size + 1 by omega)))
    have hbz := ((hbw.trans ((belowN w1 1).mono hbw.size)).trans (b2.mono hbw.size)).trans (b3.mono (Nat.le_trans hbw.size b2.size))
    go_wp2
    refine bodyPost_ret (ResR (HB7.out.stored _ _) rfl _ rfl) rfl ?_
    exact ⟨A', c', rfl, HR.out.stored HB7.out _ _, (hbz.setCell (Nat.le_succ _) _).setCell (Nat.le_succ _) _⟩
set_option maxRecDepth 100000 in
set_option maxHeartbeats 2000000 in
theorem rNormal (N : Int) (l : Prs) (n : Nat) (hn : l.length = n) (A : Option Addr) (c : Nat) (w : World) (ha : Rp w A c l) :
    Calls Try.prog 15 #[relV N A n c] w (GivesR (nrmN N l) (nrmL N l) w) := by
  have HN := Lib.hid hn; clear hn
  obtain ⟨W, hW, hB0, hB1, hbW, hzW⟩ := twoBoxes w N 0 (.slice A n c) (.slice none 0 0)
  have HA1 := Lib.hid (ha.below hbW); clear ha
  have HB0 := Lib.hid hB0; clear hB0
  have HB1 := Lib.hid hB1; clear hB1
  obtain ⟨c0, c1, _, _⟩ := HB0.out.facts
  go_enter Try.func15, Try.ntmps15
  rcases hv : okR N l with _ | _
  · have HV := Lib.hid hv
    have e1 : nrmN N l = 0 := by unfold nrmN; rw [hv]; rfl
    have e2 : nrmL N l = [] := by unfold nrmL; rw [hv]; rfl
    rw [e1, e2]
    clear hv e1 e2
    go_wp2_with fail
    refine (rValid N l n HN.out false HV.out A c _ HA1.out).mono ?_
    rintro e w1 ⟨rfl, b1⟩
    have HB1 := Lib.hid (HB1.out.below b1)
    obtain ⟨c2, c3, f2, f3⟩ := HB1.out.facts
    go_wp2
    refine bodyPost_ret (ResR (HB1.out.stored 0 (.slice none 0 0)) rfl _ rfl) rfl ?_
    exact ⟨none, 0, rfl, Rp.nil, ((hbW.trans (b1.mono hbW.size)).setCell (Nat.le_succ _) _).setCell (Nat.le_succ _) _⟩
  · have HV := Lib.hid hv
    obtain ⟨k, rfl, hk⟩ := okNat hv
    have e1 : nrmN k l = k := by unfold nrmN; rw [hv]; rfl
    obtain ⟨L, e2⟩ : ∃ L, nrm k (hasP l) = L := ⟨_, rfl⟩
    have e3 : nrmL k l = L := by unfold nrmL; rw [hv, ← e2]; rfl
    rw [e1, e3]
    obtain ⟨M, hM⟩ : ∃ M, k * k = M := ⟨_, rfl⟩
    have HT := Lib.hid (fun w' ha' => rTable k hk l n HN.out hv M hM A c w' ha')
    have HL := Lib.hid (fun g w' hr => rListed k hk (hasP l) M hM L e2 g w' hr)
    clear hv e1 e2 e3
    go_wp2_with fail
    refine (rValid k l n HN.out true HV.out A c _ HA1.out).mono ?_
    rintro e w1 ⟨rfl, b1⟩
    have HB0 := Lib.hid (HB0.out.below b1)
    have HB1 := Lib.hid (HB1.out.below b1)
    have HA2 := Lib.hid (HA1.out.below b1)
    have hbw := hbW.trans (b1.mono hbW.size)
    obtain ⟨c0, c1, _, _⟩ := HB0.out.facts
    obtain ⟨c2, c3, f2, f3⟩ := HB1.out.facts
    go_wp2
    have HA3 : Hid (Rp w1.drew A c l) := Lib.hid (HA2.out.drewN 1)
    have HB2 : Hid (BoxR w1.drew w.heap.size k (.slice A n c)) := Lib.hid HB0.out
    have HB3 : Hid (BoxR w1.drew (w.heap.size + 1) 0 (.slice none 0 0)) := Lib.hid HB1.out
    go_region_held3 (fun w' => w'.cell? ⟨w.heap.size, 0, none⟩ = some (.int .i64 k) ∧ w'.cell? ⟨w.heap.size, 1, none⟩ = some (.slice A n c))
      (first | exact KR _ _ | assumption | simp [*])
      (first
        | (go_at_call 36; refine (HT.out _ HA3.out).mono ?_; (rintro e w2 ⟨g, rfl, hM, hb, b2⟩); have HM := Lib.hid hM; have HB4 := Lib.hid (HB2.out.below b2); have HB5 := Lib.hid (HB3.out.below b2); obtain ⟨d0, d1, _, _⟩ := HB4.out.facts)
        | (go_at_call 35; refine (HL.out _ _ HM.out).mono ?_; (rintro e w3 ⟨A', c', rfl, hr, b3⟩); have HR := Lib.hid hr; have HB6 := Lib.hid (HB4.out.below b3); have HB7 := Lib.hid (HB5.out.below b3); obtain ⟨d2, d3, _, _⟩ := HB6.out.facts; obtain ⟨c4, c5, f4, f5⟩ := HB7.out.facts; have KR := keepR HB6.out (show w.heap.size ≠ w.heap.size + 1 by omega)))
    have hbz := ((hbw.trans ((belowN w1 1).mono hbw.size)).trans (b2.mono hbw.size)).trans (b3.mono (Nat.le_trans hbw.size b2.size))
    go_wp2
    refine bodyPost_ret (ResR (HB7.out.stored _ _) rfl _ rfl) rfl ?_
    exact ⟨A', c', rfl, HR.out.stored HB7.out _ _, (hbz.setCell (Nat.le_succ _) _).setCell (Nat.le_succ _) _⟩
set_option maxRecDepth 100000 in
set_option maxHeartbeats 2000000 in
theorem rAcyclic (N : Int) (l : Prs) (n : Nat) (hn : l.length = n) (r : Bool) (hr : acyR N l = r) (A : Option Addr) (c : Nat) (w : World) (ha : Rp w A c l) :
    Calls Try.prog 26 #[relV N A n c] w fun e w' => e = .returned (.bool r) ∧ Below w.heap.size w w' := by
  have HN := Lib.hid hn; clear hn
  obtain ⟨W, hW⟩ : ∃ W, w.alloc (.cells #[.int .i64 N, .slice A n c] 24) = W := ⟨_, rfl⟩
  have HB0 : Hid (BoxR W w.heap.size N (.slice A n c)) := by rw [← hW]; exact Lib.hid (BoxR.new w N _)
  have hbW : Below w.heap.size w W := by rw [← hW]; exact belowAlloc w _
  have HA := Lib.hid (ha.below hbW); clear ha
  obtain ⟨c0, c1, _, _⟩ := HB0.out.facts
  go_enter Try.func26, Try.ntmps26
  rcases hv : okR N l with _ | _
  · have HV := Lib.hid hv
    have hr : r = false := by rw [← hr]; unfold acyR; rw [hv]; rfl
    subst hr
    clear hv
    go_wp2_with fail
    refine (rValid N l n HN.out false HV.out A c _ HA.out).mono ?_
    rintro e w1 ⟨rfl, b1⟩
    go_wp2
    go_ret
    exact ⟨rfl, belowThen hbW b1⟩
  · have HV := Lib.hid hv
    obtain ⟨k, rfl, hk⟩ := okNat hv
    obtain ⟨M, hM⟩ : ∃ M, k * k = M := ⟨_, rfl⟩
    have hM2 : M ≤ 4096 := by have h := Nat.mul_le_mul hk hk; omega
    obtain ⟨f, hf⟩ : ∃ f, tcT k (hasP l) = f := ⟨_, rfl⟩
    have HT := Lib.hid (fun w' ha' => rClosed k hk l n HN.out hv M hM A c w' ha')
    rw [hf] at HT
    have e3 : acyR k l = (List.range k).all fun a => !f a a := by unfold acyR acyB; rw [hv, ← hf]; rfl
    have HYES := Lib.hid (show (∀ a, a < k → f a a = false) → r = true from fun h => by
      rw [← hr, e3, List.all_eq_true]
      intro a ha
      rw [h a (List.mem_range.1 ha)]; rfl)
    have HNO := Lib.hid (show ∀ a, a < k → f a a = true → r = false from fun a ha h => by
      rw [← hr, e3, Bool.eq_false_iff]
      intro h2
      rw [List.all_eq_true] at h2
      have := h2 a (List.mem_range.2 ha)
      rw [h] at this; cases this)
    clear hv hf e3 hr
    go_wp2_with fail
    refine (rValid k l n HN.out true HV.out A c _ HA.out).mono ?_
    rintro e w1 ⟨rfl, b1⟩
    have HB0 := Lib.hid (HB0.out.below b1)
    have HA := Lib.hid (HA.out.below b1)
    have hb1 := belowThen hbW b1
    obtain ⟨c0, c1, _, _⟩ := HB0.out.facts
    go_wp2_with fail
    refine (HT.out _ HA.out).mono ?_
    rintro e w2 ⟨g, rfl, hr, hg, b2⟩
    have HR := Lib.hid hr; clear hr
    have HB0 := Lib.hid (HB0.out.below b2)
    have hb2 := belowThen hb1 b2
    obtain ⟨c0, c1, _, _⟩ := HB0.out.facts
    go_wp2
    go_loopw [4] (fun v wr => ∃ a : Nat, a ≤ k ∧ v = .int .i64 a ∧ Hid (∀ x, x < a → f x x = false) ∧ wr = w2) (fun v _ => k - (intOf v).toNat)
    case atStart => exact ⟨0, Nat.zero_le _, rfl, Lib.hid (fun x hx => by omega), rfl⟩
    case round =>
      obtain ⟨a, hal, rfl, HP, rfl⟩ := hrel
      by_cases hla : a < k
      · obtain ⟨p, hp⟩ : ∃ p, a * k = p := ⟨_, rfl⟩
        have l1 := flatLt hla hla
        rw [hM, hp] at l1
        have k1 := HR.out.at2 hp hla l1
        obtain ⟨f1, f2, f3, f4, f5, f6, f7⟩ := ixFacts hM2 hp l1
        cases hff : f a a with
        | false =>
          rw [hff] at k1
          have HX := Lib.hid (show ∀ x, x < a + 1 → f x x = false from fun x hx => by
            by_cases e : x = a
            · subst e; exact hff
            · exact HP.out x (by omega))
          clear hff
          go_wp2
          all_goals first
            | exact ⟨⟨a + 1, by omega, by go_num, HX, rfl⟩, by simp [intOf]; omega⟩
            | (go_roundw; (case rel => exact ⟨a + 1, by omega, by go_num, HX, by first | trivial | rfl⟩); (case measure => simp [intOf]; omega))
        | true =>
          rw [hff] at k1
          have HX := Lib.hid (HNO.out a hla hff)
          clear hff
          go_wp2
          go_ret
          exact ⟨retB HX.out.symm, hb2⟩
      · have HX := Lib.hid (HYES.out fun x hx => HP.out x (by omega))
        go_wp2
        go_ret
        exact ⟨retB HX.out.symm, hb2⟩
end Go.Proofs.Ytpfdhjmhoggioaa
