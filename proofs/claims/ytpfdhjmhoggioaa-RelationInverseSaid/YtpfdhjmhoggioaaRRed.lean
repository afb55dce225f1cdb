/-
  The contract of Reduction.
-/
import Derived.Test.YtpfdhjmhoggioaaRCom
import Derived.Test.YtpfdhjmhoggioaaRAcT
namespace Go.Proofs.Ytpfdhjmhoggioaa
open Go.RowKit Go.Maps

theorem redTab {n : Nat} {t : Nat → Nat → Bool} {L1 L2 : Prs} (h1 : nrm n t = L1) (h2 : nrm n (cmpT n (hasP L1) (hasP L1)) = L2) : TabS n (fun x y => memP L1 x y && !memP L2 x y) (redT n t) := fun x y => by
  have hc : ∀ a b, a < n → b < n → cmpT n (hasP L1) (hasP L1) a b = cmpT n t t a b := fun a b ha hb => by
    rw [Bool.eq_iff_iff, cmpIff, cmpIff]
    constructor
    · rintro ⟨c, hc, h3, h4⟩
      rw [← h1] at h3 h4
      exact ⟨c, hc, (hasNrm ha hc).symm.trans h3, (hasNrm hc hb).symm.trans h4⟩
    · rintro ⟨c, hc, h3, h4⟩
      rw [← h1]
      exact ⟨c, hc, by rw [hasNrm ha hc]; exact h3, by rw [hasNrm hc hb]; exact h4⟩
  show (memP L1 x y && !memP L2 x y) = true ↔ _
  unfold memP redT
  rw [Bool.and_eq_true, decide_eq_true_iff, Bool.not_eq_true', decide_eq_false_iff_not, ← h2, nrmMem]
  constructor
  · rintro ⟨h3, h4⟩
    rw [← h1, nrmMem] at h3
    obtain ⟨a, b, rfl, rfl, ha, hb, h5⟩ := h3
    refine ⟨a, b, rfl, rfl, ha, hb, ?_⟩
    rw [h5, Bool.true_and, Bool.not_eq_true']
    cases e : cmpT n t t a b
    · rfl
    · exact absurd ⟨a, b, rfl, rfl, ha, hb, by rw [hc a b ha hb]; exact e⟩ h4
  · rintro ⟨a, b, rfl, rfl, ha, hb, h5⟩
    rw [Bool.and_eq_true, Bool.not_eq_true'] at h5
    refine ⟨by rw [← h1, nrmMem]; exact ⟨a, b, rfl, rfl, ha, hb, h5.1⟩, ?_⟩
    rintro ⟨a', b', e1, e2, _, _, h6⟩
    obtain rfl : a = a' := by omega
    obtain rfl : b = b' := by omega
    rw [hc a b ha hb, h5.2] at h6
    cases h6
/-- Of the pairs of l those are left that are not among the first k of m. -/
def lessP (l m : Prs) (k : Nat) (x y : Int) : Bool := memP l x y && !memP (m.take k) x y
theorem lessNext {l m : Prs} {k : Nat} (hk : k < m.length) (x y : Int) : (lessP l m k x y && !decide (x = m[k].1 ∧ y = m[k].2)) = lessP l m (k + 1) x y := by
  unfold lessP
  rw [← memPSucc hk]
  cases memP l x y <;> cases memP (m.take k) x y <;> cases decide (x = m[k].1 ∧ y = m[k].2) <;> rfl

set_option maxRecDepth 100000 in
set_option maxHeartbeats 4000000 in
theorem iReductionArg (N : Int) (l : Prs) (n : Nat) (hn : l.length = n) (hv : okR N l = false) (A : Option Addr) (c : Nat) (w : World) (ha : Rp w A c l) :
    Calls Try.prog 29 #[relV N A n c] w (GivesE 0 [] 1 w) := by
  obtain ⟨W, hW, hB0, hB1, hbW, hszW⟩ := argBoxes w N (.slice A n c)
  have HA := Lib.hid (ha.below hbW); clear ha
  have HN := Lib.hid hn; clear hn
  have HB1 := Lib.hid hB1; clear hB1
  obtain ⟨c0, c1, _, _⟩ := hB0.facts
  clear hB0
  have HV := Lib.hid hv; clear hv
  go_enter Try.func29, Try.ntmps29
  go_wp2_with fail
  refine (iValid N l n HN.out false HV.out A c _ HA.out).mono ?_
  rintro e w1 ⟨rfl, b1⟩
  have HB1 := Lib.hid (HB1.out.below b1)
  obtain ⟨c2, c3, f2, f3⟩ := HB1.out.facts
  go_wp2
  refine bodyPost_ret (ResE (HB1.out.stored 0 (.slice none 0 0)) rfl _ rfl) rfl ?_
  exact ⟨none, 0, rfl, Rp.nil, ((hbW.trans (b1.mono hbW.size)).setCell (Nat.le_succ _) _).setCell (Nat.le_succ _) _⟩

set_option maxRecDepth 100000 in
set_option maxHeartbeats 4000000 in
theorem iReductionCycle (N : Int) (l : Prs) (n : Nat) (hn : l.length = n) (hs : n ≤ 65536) (hv : okR N l = true) (hc : acyR N l = false) (A : Option Addr) (c : Nat) (w : World) (ha : Rp w A c l) :
    Calls Try.prog 29 #[relV N A n c] w (GivesE 0 [] 20 w) := by
  obtain ⟨W, hW, hB0, hB1, hbW, hszW⟩ := argBoxes w N (.slice A n c)
  have HA := Lib.hid (ha.below hbW); clear ha
  have HN := Lib.hid hn; clear hn
  have HB0 := Lib.hid hB0; clear hB0
  have HB1 := Lib.hid hB1; clear hB1
  obtain ⟨c0, c1, _, _⟩ := HB0.out.facts
  have HV := Lib.hid hv; clear hv
  have HC := Lib.hid hc; clear hc
  go_enter Try.func29, Try.ntmps29
  go_wp2_with fail
  refine (iValid N l n HN.out true HV.out A c _ HA.out).mono ?_
  rintro e w1 ⟨rfl, b1⟩
  have HB0 := Lib.hid (HB0.out.below b1)
  have HB1 := Lib.hid (HB1.out.below b1)
  have HA := Lib.hid (HA.out.below b1)
  have hb1 := hbW.trans (b1.mono hbW.size)
  obtain ⟨c0, c1, _, _⟩ := HB0.out.facts
  go_wp2_with fail
  refine (iAcyclic N l n HN.out hs A c _ HA.out).mono ?_
  rintro e w2 ⟨rfl, b2⟩
  rw [HC.out]
  have HB1 := Lib.hid (HB1.out.below b2)
  have hb2 := hb1.trans (b2.mono hb1.size)
  obtain ⟨c2, c3, f2, f3⟩ := HB1.out.facts
  go_wp2
  refine bodyPost_ret (ResE (HB1.out.stored 0 (.slice none 0 0)) rfl _ rfl) rfl ?_
  exact ⟨none, 0, rfl, Rp.nil, (hb2.setCell (Nat.le_succ _) _).setCell (Nat.le_succ _) _⟩

set_option maxRecDepth 100000 in
set_option maxHeartbeats 4000000 in
theorem iReductionYes (N : Nat) (l : Prs) (n : Nat) (hN : N ≤ 64) (hn : l.length = n) (hs : n ≤ 65536) (hv : okR N l = true) (hc : acyR N l = true) (L : Prs) (hL : nrm N (redT N (tcT N (hasP l))) = L) (A : Option Addr) (c : Nat) (w : World) (ha : Rp w A c l) :
    Calls Try.prog 29 #[relV N A n c] w (GivesE N L 0 w) := by
  obtain ⟨W, hW, hB0, hB1, hbW, hszW⟩ := argBoxes w N (.slice A n c)
  have HA := Lib.hid (ha.below hbW); clear ha
  have HN := Lib.hid hn; clear hn
  have HB0 := Lib.hid hB0; clear hB0
  have HB1 := Lib.hid hB1; clear hB1
  obtain ⟨c0, c1, _, _⟩ := HB0.out.facts
  have e1 : nrmN N l = N := by unfold nrmN; rw [hv]; rfl
  obtain ⟨f, hf⟩ : ∃ f, hasP l = f := ⟨_, rfl⟩
  rw [hf] at hL
  obtain ⟨L1, e2⟩ : ∃ L, nrm N (tcT N f) = L := ⟨_, rfl⟩
  have e3 : cloL N l = L1 := by unfold cloL; rw [hv, hf, ← e2]; rfl
  obtain ⟨L2, e4⟩ : ∃ L, nrm N (cmpT N (hasP L1) (hasP L1)) = L := ⟨_, rfl⟩
  have hNN : N * N ≤ 64 * 64 := Nat.mul_le_mul hN hN
  have hl1 : L1.length ≤ 4096 := by have := lenNrm N (tcT N f); rw [e2] at this; omega
  have hl2 : L2.length ≤ 4096 := by have := lenNrm N (cmpT N (hasP L1) (hasP L1)); rw [e4] at this; omega
  have HO1 := Lib.hid (show okR N L1 = true by rw [← e2]; exact okNrm hN _)
  have HW2 := Lib.hid (show wfL L2 by rw [← e4]; exact wfNrm hN _)
  have HT := Lib.hid (redTab e2 e4)
  have HE4 := Lib.hid e4
  have HL := Lib.hid hL
  have HV := Lib.hid hv
  have HC := Lib.hid hc
  have HCL := Lib.hid (iClosure N l n HN.out hs)
  rw [e1, e3] at HCL
  obtain ⟨n1, hn1⟩ : ∃ k, L1.length = k := ⟨_, rfl⟩
  obtain ⟨n2, hn2⟩ : ∃ k, L2.length = k := ⟨_, rfl⟩
  rw [hn1] at hl1
  rw [hn2] at hl2
  have HN1 := Lib.hid hn1
  have HN2 := Lib.hid hn2
  clear hv hc hL e1 e2 e3 e4 hf hn1 hn2 hNN
  go_enter Try.func29, Try.ntmps29
  go_wp2_with fail
  refine (iValid N l n HN.out true HV.out A c _ HA.out).mono ?_
  rintro e w1 ⟨rfl, b1⟩
  have HB0 := Lib.hid (HB0.out.below b1)
  have HB1 := Lib.hid (HB1.out.below b1)
  have HA := Lib.hid (HA.out.below b1)
  have hb1 := hbW.trans (b1.mono hbW.size)
  obtain ⟨c0, c1, _, _⟩ := HB0.out.facts
  go_wp2_with fail
  refine (iAcyclic N l n HN.out hs A c _ HA.out).mono ?_
  rintro e w2 ⟨rfl, b2⟩
  rw [HC.out]
  have HB0 := Lib.hid (HB0.out.below b2)
  have HB1 := Lib.hid (HB1.out.below b2)
  have HA := Lib.hid (HA.out.below b2)
  have hb2 := hb1.trans (b2.mono hb1.size)
  obtain ⟨c0, c1, _, _⟩ := HB0.out.facts
  go_wp2_with fail
  refine (HCL.out A c _ HA.out).mono ?_
  rintro e w3 ⟨A1, d1, rfl, hr3, b3⟩
  rw [HN1.out]
  have HB0 := Lib.hid (HB0.out.below b3)
  have HB1 := Lib.hid (HB1.out.below b3)
  have hb3 := hb2.trans (b3.mono hb2.size)
  obtain ⟨X, hX⟩ : ∃ X, w3.alloc (.cells #[.int .i64 N, .slice A1 n1 d1] 24) = X := ⟨_, rfl⟩
  have bX : Below w3.heap.size w3 X := by rw [← hX]; exact belowAlloc _ _
  have HBX : Hid (BoxR X w3.heap.size N (.slice A1 n1 d1)) := by rw [← hX]; exact Lib.hid (BoxR.new w3 N _)
  have HR3 := Lib.hid (hr3.below bX); clear hr3
  have HB0 := Lib.hid (HB0.out.below bX)
  have HB1 := Lib.hid (HB1.out.below bX)
  have hbX := hb3.trans (bX.mono hb3.size)
  obtain ⟨x0, x1, _, _⟩ := HBX.out.facts
  have hlt3 : w.heap.size + 1 < w3.heap.size := by have := b1.size; have := b2.size; have := b3.size; omega
  go_wp2_with fail
  refine (iComposeYes N L1 L1 n1 n1 hN HN1.out HN1.out HO1.out HO1.out L2 HE4.out (by omega) (by omega) A1 A1 d1 d1 _ HR3.out HR3.out).mono ?_
  rintro e w4 ⟨A2, d2, rfl, hr4, b4⟩
  rw [HN2.out]
  have HB0 := Lib.hid (HB0.out.below b4)
  have HB1 := Lib.hid (HB1.out.below b4)
  have HBX := Lib.hid (HBX.out.below b4)
  have HR3 := Lib.hid (HR3.out.below b4)
  have hb4 := hbX.trans (b4.mono hbX.size)
  obtain ⟨Y, hY⟩ : ∃ Y, w4.alloc (.cells #[.int .i64 N, .slice A2 n2 d2] 24) = Y := ⟨_, rfl⟩
  have bY : Below w4.heap.size w4 Y := by rw [← hY]; exact belowAlloc _ _
  have HBY : Hid (BoxR Y w4.heap.size N (.slice A2 n2 d2)) := by rw [← hY]; exact Lib.hid (BoxR.new w4 N _)
  have HR4 := Lib.hid (hr4.below bY); clear hr4
  have HB0 := Lib.hid (HB0.out.below bY)
  have HB1 := Lib.hid (HB1.out.below bY)
  have HBX := Lib.hid (HBX.out.below bY)
  have HR3 := Lib.hid (HR3.out.below bY)
  have hbY := hb4.trans (bY.mono hb4.size)
  obtain ⟨x0, x1, _, _⟩ := HBX.out.facts
  go_wp2_with fail
  refine (iPairs N L1 n1 HN1.out (okWf HO1.out) (by omega) A1 d1 _ HR3.out).mono ?_
  rintro e w5 ⟨p, rfl, hm5, hp, b5⟩
  have HB0 := Lib.hid (HB0.out.below b5)
  have HB1 := Lib.hid (HB1.out.below b5)
  have HBY := Lib.hid (HBY.out.below b5)
  have HR4 := Lib.hid (HR4.out.below b5)
  have hb5 := hbY.trans (b5.mono hbY.size)
  have hzY : Y.heap.size = w4.heap.size + 1 := by rw [← hY]; simp
  have hpw : w.heap.size + 1 < p := by have := b4.size; have := bX.size; omega
  have HM5 := Lib.hid (hm5.congr (T := lessP L1 L2 0) fun x y _ => by simp [lessP, memP]); clear hm5
  obtain ⟨y0, y1, _, _⟩ := HBY.out.facts
  have hle2 := HR4.out.le
  have hmx2 := HR4.out.max
  unfold maxLen at hmx2
  rw [HN2.out] at hle2
  clear c0 c1 x0 x1
  go_wp2
  go_loopw [31] (fun i wr => ∃ k : Nat, k ≤ n2 ∧ i = .int .i64 k ∧ Hid (MapP wr p n1 (lessP L1 L2 k)) ∧ Hid (Chg w5 wr (fun g => g ≠ p))) (fun i _ => n2 - (intOf i).toNat)
  case atStart => exact ⟨0, Nat.zero_le _, rfl, HM5, Lib.hid (Chg.refl _ _)⟩
  case round =>
    obtain ⟨k, hk, rfl, HM, HC6⟩ := hrel
    by_cases hlt : k < n2
    · have hkl : k < L2.length := by have := HN2.out; omega
      obtain ⟨b, off, rfl, had, hc1, hc2⟩ := HR4.out.one hkl
      have hc1 := cellKept HM5.out HC6.out hc1
      have hc2 := cellKept HM5.out HC6.out hc2
      have HK := Lib.hid (wfAt HW2.out hkl)
      have HS := Lib.hid (fun x y => lessNext (l := L1) hkl x y)
      generalize L2[k].1 = x at *
      generalize L2[k].2 = y at *
      go_wp2_with (refine wpList_delP _ rfl (.tmp 35) (.tmp 36) rfl p n1 _ (HM.out.alloc _) rfl x y rfl HK.out ?_; intro w7 m7 g7; have HM7 := Lib.hid (m7.congr fun u v _ => HS.out u v); have G7 := Lib.hid (Chg.ofGrown g7 (F := fun g => g ≠ p) fun k hk e => hk (by injection e with e; exact e.symm)); clear m7 g7)
      go_roundw
      case rel => exact ⟨k + 1, by omega, by go_num, HM7, Lib.hid ((HC6.out.trans (Chg.alloc wr _ fun g => g ≠ p) fun _ _ h => h).trans G7.out fun _ _ h => h)⟩
      case measure => simp [intOf]; omega
    · obtain rfl : k = n2 := by omega
      have hT : TabS N (lessP L1 L2 k) (redT N (tcT N f)) := by
        have h := HT.out
        unfold lessP
        rw [List.take_of_length_le (by rw [HN2.out]; exact Nat.le_refl _)]
        exact h
      have HT2 := Lib.hid hT; clear hT
      have HB0r := Lib.hid (boxKeptM HM5.out HC6.out HB0.out)
      have HB1r := Lib.hid (boxKeptM HM5.out HC6.out HB1.out)
      have hbr : Below w.heap.size w wr := hb5.trans ⟨HC6.out.os, HC6.out.tape, HC6.out.output, HC6.out.size, fun g hg => HC6.out.block g (by have := hb5.size; omega) (by omega)⟩
      obtain ⟨d0, d1, _, _⟩ := HB0r.out.facts
      go_wp2_with fail
      refine (iNormalT N p n1 _ _ hN HT2.out L HL.out (by omega) _ HM.out).mono ?_
      rintro e w7 ⟨A', c', rfl, hr, b7⟩
      have HRP := Lib.hid hr; clear hr
      have HB7 := Lib.hid (HB1r.out.below b7)
      have hb7 := hbr.trans (b7.mono hbr.size)
      obtain ⟨d2, d3, f2, f3⟩ := HB7.out.facts
      go_wp2
      refine bodyPost_ret (ResE (HB7.out.stored N (.slice A' L.length c')) rfl _ rfl) rfl ?_
      exact ⟨A', c', rfl, HRP.out.stored HB7.out _ _, (hb7.setCell (Nat.le_succ _) _).setCell (Nat.le_succ _) _⟩
end Go.Proofs.Ytpfdhjmhoggioaa
