/-
  The contract of Cycle: the first of the shortest cycles.
-/
import Derived.Test.YtpfdhjmhoggioaaRDef
import Derived.Test.YtpfdhjmhoggioaaRWk
import Derived.Test.YtpfdhjmhoggioaaRRed
namespace Go.Proofs.Ytpfdhjmhoggioaa
open Go.RowKit Go.Maps

theorem sucCongr {n : Nat} {f g : Nat → Nat → Bool} {i : Nat} (h : ∀ j, j < n → f i j = g i j) : sucI n f i = sucI n g i := by
  unfold sucI
  congr 1
  exact List.filter_congr fun x hx => h x (List.mem_range.1 hx)
theorem RdF.congr {w : World} {A : Option Addr} {c n : Nat} {C D : Nat → List Int} (h : RdF w A c C n) (e : ∀ i, i < n → C i = D i) : RdF w A c D n := by
  obtain ⟨vs, h1, h2, h3⟩ := h
  exact ⟨vs, h1, h2, fun i hi => by rw [← e i hi]; exact h3 i hi⟩
/-- The best start below s, in the three variables of the loop. -/
def BestV (N : Nat) (f : Nat → Nat → Bool) (s : Nat) (wr : World) (g0 : Nat) (b len : Nat) (v : Value) : Prop :=
  (bst N f s = none ∧ b = 0 ∧ len = 0 ∧ v = .slice none 0 0) ∨ (bst N f s = some b ∧ len = dst N f b b ∧ 0 < len ∧ ∃ g, v = .slice (some ⟨g, 0, none⟩) N N ∧ RowI wr g N (fun x => dst N f x b) ∧ g0 ≤ g)
theorem BestV.below {N : Nat} {f : Nat → Nat → Bool} {s : Nat} {wr wr' : World} {g0 b len : Nat} {v : Value} (h : BestV N f s wr g0 b len v) (hb : Below wr.heap.size wr wr') : BestV N f s wr' g0 b len v := by
  rcases h with h | ⟨h1, h2, h3, g, h4, h5, h6⟩
  · exact .inl h
  · exact .inr ⟨h1, h2, h3, g, h4, h5.chg (Chg.ofBelow hb fun _ => True) trivial, h6⟩
/-- Is s better than what was found? -/
def beats (D len : Nat) : Bool := decide (0 < D) && (decide (len = 0) || decide (D < len))
theorem bestYes {N : Nat} {f : Nat → Nat → Bool} {s : Nat} {wr : World} {g0 b len : Nat} {v : Value} (h : BestV N f s wr g0 b len v) (hb : beats (dst N f s s) len = true) {g : Nat} (hr : RowI wr g N (fun x => dst N f x s)) (hg : g0 ≤ g) : BestV N f (s + 1) wr g0 s (dst N f s s) (.slice (some ⟨g, 0, none⟩) N N) := by
  unfold beats at hb
  rw [Bool.and_eq_true, Bool.or_eq_true, decide_eq_true_iff, decide_eq_true_iff, decide_eq_true_iff] at hb
  refine .inr ⟨?_, rfl, hb.1, g, rfl, hr, hg⟩
  rw [bst]
  rcases h with ⟨h1, _, h2, _⟩ | ⟨h1, h2, h3, _⟩
  · rw [h1]; simp [hb.1]
  · rw [h1]
    have : dst N f s s < dst N f b b := by rcases hb.2 with h | h <;> omega
    simp [hb.1, this]
theorem bestNo {N : Nat} {f : Nat → Nat → Bool} {s : Nat} {wr : World} {g0 b len : Nat} {v : Value} (h : BestV N f s wr g0 b len v) (hb : beats (dst N f s s) len = false) : BestV N f (s + 1) wr g0 b len v := by
  have hb : ¬ (0 < dst N f s s ∧ (len = 0 ∨ dst N f s s < len)) := by
    intro hc
    unfold beats at hb
    rw [decide_eq_true hc.1] at hb
    rcases hc.2 with h | h
    · rw [decide_eq_true h] at hb; cases hb
    · rw [decide_eq_true h] at hb; simp at hb
  rcases h with ⟨h1, h0, h2, h3⟩ | ⟨h1, h2, h3, h4⟩
  · refine .inl ⟨?_, h0, h2, h3⟩
    rw [bst, h1]
    have : ¬ 0 < dst N f s s := fun h => hb ⟨h, .inl h2⟩
    simp [this]
  · refine .inr ⟨?_, h2, h3, h4⟩
    rw [bst, h1]
    have : ¬ (0 < dst N f s s ∧ dst N f s s < dst N f b b) := fun h => hb ⟨h.1, .inr (by omega)⟩
    simp [this]
set_option maxRecDepth 100000 in
set_option maxHeartbeats 4000000 in
theorem iCycleNo (N : Int) (l : Prs) (n : Nat) (hn : l.length = n) (hv : okR N l = false) (A : Option Addr) (c : Nat) (w : World) (ha : Rp w A c l) :
    Calls Try.prog 22 #[relV N A n c] w (GivesC [] false w) := by
  obtain ⟨W, hW⟩ : ∃ W, w.alloc (.cells #[.int .i64 N, .slice A n c] 24) = W := ⟨_, rfl⟩
  have HB0 : Hid (BoxR W w.heap.size N (.slice A n c)) := by rw [← hW]; exact Lib.hid (BoxR.new w N _)
  have hbW : Below w.heap.size w W := by rw [← hW]; exact belowAlloc w _
  have HA := Lib.hid (ha.below hbW); clear ha
  have HN := Lib.hid hn; clear hn
  obtain ⟨c0, c1, _, _⟩ := HB0.out.facts
  have HV := Lib.hid hv; clear hv
  go_enter Try.func22, Try.ntmps22
  go_wp2_with fail
  refine (iValid N l n HN.out false HV.out A c _ HA.out).mono ?_
  rintro e w1 ⟨rfl, b1⟩
  go_wp2
  go_ret2
  exact ⟨none, 0, rfl, Rd.nil, hbW.trans (b1.mono hbW.size)⟩

set_option maxRecDepth 100000 in
set_option maxHeartbeats 4000000 in
theorem iCycleYes (N : Nat) (hN : N ≤ 64) (l : Prs) (n : Nat) (hn : l.length = n) (hs : n ≤ 65536) (hv : okR N l = true) (f : Nat → Nat → Bool) (hf : hasP l = f) (A : Option Addr) (c : Nat) (w : World) (ha : Rp w A c l) :
    Calls Try.prog 22 #[relV N A n c] w (GivesC (ni (cyc N f)) (!acyB N f) w) := by
  obtain ⟨W, hW⟩ : ∃ W, w.alloc (.cells #[.int .i64 N, .slice A n c] 24) = W := ⟨_, rfl⟩
  have HB0 : Hid (BoxR W w.heap.size N (.slice A n c)) := by rw [← hW]; exact Lib.hid (BoxR.new w N _)
  have hbW : Below w.heap.size w W := by rw [← hW]; exact belowAlloc w _
  have HA := Lib.hid (ha.below hbW); clear ha
  have HN := Lib.hid hn; clear hn
  obtain ⟨c0, c1, _, _⟩ := HB0.out.facts
  have e1 : nrmN N l = N := by unfold nrmN; rw [hv]; rfl
  obtain ⟨L1, e2⟩ : ∃ L, nrm N (invT f) = L := ⟨_, rfl⟩
  have e3 : invL N l = L1 := by unfold invL; rw [hv, hf, ← e2]; rfl
  have HINV := Lib.hid (iInverse N l n HN.out hs)
  rw [e1, e3] at HINV
  have hl1 : L1.length ≤ 4096 := by have := lenNrm N (invT f); have hNN : N * N ≤ 64 * 64 := Nat.mul_le_mul hN hN; rw [e2] at this; omega
  have HO1 := Lib.hid (show okR N L1 = true by rw [← e2]; exact okNrm hN _)
  have HSC := Lib.hid (show ∀ i, i < N → sucI N (hasP L1) i = sucI N (fun x y => f y x) i from fun i hi => sucCongr fun j hj => by rw [← e2]; exact hasNrm hi hj)
  have HV := Lib.hid hv
  have HF := Lib.hid hf
  obtain ⟨n1, hn1⟩ : ∃ k, L1.length = k := ⟨_, rfl⟩
  rw [hn1] at hl1
  have HN1 := Lib.hid hn1
  clear hv hf e1 e2 e3 hn1
  go_enter Try.func22, Try.ntmps22
  go_wp2_with fail
  refine (iValid N l n HN.out true HV.out A c _ HA.out).mono ?_
  rintro e w1 ⟨rfl, b1⟩
  have HB0 := Lib.hid (HB0.out.below b1)
  have HA := Lib.hid (HA.out.below b1)
  have hb1 := hbW.trans (b1.mono hbW.size)
  obtain ⟨c0, c1, _, _⟩ := HB0.out.facts
  go_wp2_with fail
  refine (HINV.out A c _ HA.out).mono ?_
  rintro e w2 ⟨A1, d1, rfl, hr2, b2⟩
  rw [HN1.out]
  have HR2 := Lib.hid hr2; clear hr2
  have HB0 := Lib.hid (HB0.out.below b2)
  have HA := Lib.hid (HA.out.below b2)
  have hb2 := hb1.trans (b2.mono hb1.size)
  go_wp2_with fail
  refine (iSucc N hN L1 n1 HN1.out HO1.out (by omega) A1 d1 _ HR2.out).mono ?_
  rintro e w3 ⟨A3, c3, rfl, hrd, b3⟩
  have HRD := Lib.hid (hrd.congr HSC.out); clear hrd
  have HB0 := Lib.hid (HB0.out.below b3)
  have HA := Lib.hid (HA.out.below b3)
  have hb3 := hb2.trans (b3.mono hb2.size)
  have hlt3 := HB0.out.lt
  obtain ⟨c0, c1, _, _⟩ := HB0.out.facts
  go_wp2_with fail
  go_loopw [5, 6, 7, 18] (fun v5 v6 v7 v18 wr => ∃ s b len : Nat, v18 = .int .i64 s ∧ v5 = .int .i64 b ∧ v6 = .int .i64 len ∧ s ≤ N ∧ len ≤ N ∧ Hid (BestV N f s wr w3.heap.size b len v7) ∧ Below w3.heap.size w3 wr) (fun _ _ _ v18 _ => N - (intOf v18).toNat)
  case atStart => exact ⟨0, 0, 0, rfl, rfl, rfl, Nat.zero_le _, Nat.zero_le _, Lib.hid (.inl ⟨rfl, rfl, rfl, rfl⟩), Below.refl _ _⟩
  case round =>
    obtain ⟨s, b, len, rfl, rfl, rfl, hsN, hlN, HBV, hbr⟩ := hrel
    by_cases hlt : s < N
    · go_wp2_with fail
      refine (iSteps N hN f s hlt A3 c3 _ (HRD.out.below hbr)).mono ?_
      rintro e w5 ⟨g, rfl, hg, hgl, b5⟩
      have hcs := hg.cell hlt
      have hdm := dstMax (n := N) (f := f) (b := s) hlt
      have HBV5 := Lib.hid (HBV.out.below b5)
      have HG := Lib.hid hg; clear hg
      have hb5 := hbr.trans (b5.mono hbr.size)
      have hg3 : w3.heap.size ≤ g := Nat.le_trans hbr.size hgl
      rcases hbt : beats (dst N f s s) len with _ | _
      · have HN5 := Lib.hid (bestNo HBV5.out hbt)
        generalize dst N f s s = D at *
        have hor : D = 0 ∨ (0 < D ∧ ¬ len = 0 ∧ ¬ D < len) := by
          unfold beats at hbt
          by_cases h1 : 0 < D
          · by_cases h2 : len = 0
            · simp [h1, h2] at hbt
            · by_cases h3 : D < len
              · simp [h1, h3] at hbt
              · exact .inr ⟨h1, h2, h3⟩
          · exact .inl (by omega)
        clear hbt
        rcases hor with rfl | ⟨h1, h2, h3⟩
        · go_wp2
          go_roundw
          case rel => exact ⟨s + 1, b, len, by go_num, rfl, rfl, by omega, hlN, HN5, hb5⟩
          case measure => simp [intOf]; omega
        · have q1 : decide ((D : Int) > 0) = true := by simp; omega
          have q2 : ((len : Int) == 0) = false := by simp; omega
          have q3 : decide ((D : Int) < len) = false := by simp; omega
          go_wp2
          go_roundw
          case rel => exact ⟨s + 1, b, len, by go_num, rfl, rfl, by omega, hlN, HN5, hb5⟩
          case measure => simp [intOf]; omega
      · have HN5 := Lib.hid (bestYes HBV5.out hbt HG.out hg3)
        generalize dst N f s s = D at *
        have hor : 0 < D ∧ (len = 0 ∨ (¬ len = 0 ∧ D < len)) := by
          unfold beats at hbt
          rw [Bool.and_eq_true, Bool.or_eq_true, decide_eq_true_iff, decide_eq_true_iff, decide_eq_true_iff] at hbt
          omega
        clear hbt
        obtain ⟨h1, h2⟩ := hor
        have q1 : decide ((D : Int) > 0) = true := by simp; omega
        rcases h2 with rfl | ⟨h2, h3⟩
        · go_wp2
          go_quiet (fail)
          go_wp2
          go_roundw
          case rel => exact ⟨s + 1, s, D, by go_num, rfl, rfl, by omega, hdm, Lib.hid (HN5.out.below (belowN _ _)), belowDrewN hb5 _⟩
          case measure => simp [intOf]; omega
        · have q2 : ((len : Int) == 0) = false := by simp; omega
          have q3 : decide ((D : Int) < len) = true := by simp; omega
          go_wp2
          go_quiet (fail)
          go_wp2
          go_roundw
          case rel => exact ⟨s + 1, s, D, by go_num, rfl, rfl, by omega, hdm, Lib.hid (HN5.out.below (belowN _ _)), belowDrewN hb5 _⟩
          case measure => simp [intOf]; omega
    · obtain rfl : s = N := by omega
      have hbw := hb3.trans (hbr.mono hb3.size)
      rcases hbs : bst s f s with _ | t
      · have e1 : cyc s f = [] := by unfold cyc; rw [hbs]
        have e2 : acyB s f = true := acyIff.2 (bstAcy.1 hbs)
        have E1 := Lib.hid e1
        have E2 := Lib.hid e2
        have hl0 : len = 0 := by
          rcases HBV.out with ⟨_, _, h, _⟩ | ⟨h, _⟩
          · exact h
          · rw [hbs] at h; cases h
        subst hl0
        clear e1 e2 hbs HBV
        go_wp2
        go_ret2
        show GivesC _ _ _ _ _
        rw [E1.out, E2.out]
        exact ⟨none, 0, rfl, Rd.nil, hbw⟩
      · have e1 : cyc s f = t :: wlk s f t (dst s f t t - 1) t := by unfold cyc; rw [hbs]
        have e2 : acyB s f = false := by
          cases e : acyB s f
          · rfl
          · have := bstAcy.2 (acyIff.1 e)
            rw [hbs] at this; cases this
        have E2 := Lib.hid e2
        obtain ⟨rfl, hl, hp, g, rfl, hg, hgw⟩ : b = t ∧ len = dst s f t t ∧ 0 < len ∧ ∃ g, u7 = .slice (some ⟨g, 0, none⟩) s s ∧ RowI wr g s (fun x => dst s f x t) ∧ w3.heap.size ≤ g := by
          rcases HBV.out with ⟨h, _⟩ | ⟨h, h1, h2, g, h3, h4, h5⟩
          · rw [hbs] at h; cases h
          · rw [hbs] at h
            injection h with h
            subst h
            exact ⟨rfl, h1, h2, g, h3, h4, h5⟩
        have hts := (bstSome hbs).1
        obtain ⟨k, rfl⟩ : ∃ k, len = k + 1 := ⟨len - 1, by omega⟩
        rw [← hl, Nat.add_sub_cancel] at e1
        have E1 := Lib.hid e1
        have HL := Lib.hid hl.symm; clear hl
        have HG := Lib.hid hg; clear hg
        have hq : (((k + 1 : Nat) : Int) == 0) = false := by simp; omega
        have HB0 := Lib.hid (HB0.out.below hbr)
        have HA := Lib.hid (HA.out.below hbr)
        obtain ⟨d0, d1, _, _⟩ := HB0.out.facts
        clear e1 e2 hbs HBV
        go_wp2_with fail
        refine (iSucc s hN l n HN.out HV.out hs A c _ HA.out).mono ?_
        rintro e w6 ⟨A6, c6, rfl, hrd, b6⟩
        rw [HF.out] at hrd
        have HR6 := Lib.hid hrd; clear hrd
        have HG6 := Lib.hid (HG.out.chg (Chg.ofBelow b6 fun _ => True) trivial)
        have hb6 := hbw.trans (b6.mono hbw.size)
        go_wp2_with fail
        refine (iWalk s hN f b hts k HL.out A6 c6 g _ HR6.out HG6.out).mono ?_
        rintro e w7 ⟨A7, c7, rfl, hr7, b7⟩
        have HR7 := Lib.hid hr7; clear hr7
        have hb7 := hb6.trans (b7.mono hb6.size)
        go_wp2
        go_ret2
        show GivesC _ _ _ _ _
        rw [E1.out, E2.out]
        exact ⟨A7, c7, rfl, HR7.out, hb7⟩
end Go.Proofs.Ytpfdhjmhoggioaa
