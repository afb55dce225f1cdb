/-
  The contract of the program's Compose.
-/
import Derived.Test.YtpfdhjmhoggioaaRCloT
namespace Go.Proofs.Ytpfdhjmhoggioaa
open Go.RowKit Go.Maps

/-- What is composed once the pairs that are not in L have come. -/
def CmpTo (N : Nat) (l : Prs) (g : Nat → Nat → Bool) (L S : Int → Int → Bool) : Prop :=
  ∀ x z, S x z = true ↔ ∃ a y b : Nat, x = (a : Int) ∧ z = (b : Int) ∧ a < N ∧ y < N ∧ b < N ∧ memP l a y = true ∧ L a y = false ∧ g y b = true
/-- In the inner loop: the first j successors of y have come beside x. -/
def CmpIn (N : Nat) (g : Nat → Nat → Bool) (S : Int → Int → Bool) (x : Int) (y j : Nat) (T : Int → Int → Bool) : Prop :=
  ∀ u v, T u v = true ↔ S u v = true ∨ (u = x ∧ ∃ i, ∃ h : i < (sucI N g y).length, i < j ∧ v = (sucI N g y)[i])
theorem cmpStart {N : Nat} {l : Prs} {g : Nat → Nat → Bool} : CmpTo N l g (memP l) (fun _ _ => false) := fun x z => by
  constructor
  · intro h; cases h
  · rintro ⟨a, y, b, _, _, _, _, _, h1, h2, _⟩; rw [h1] at h2; cases h2
theorem cmpInStart {N : Nat} {g : Nat → Nat → Bool} {S : Int → Int → Bool} {x : Int} {y : Nat} : CmpIn N g S x y 0 S := fun u v => by
  constructor
  · exact .inl
  · rintro (h | ⟨_, i, _, h, _⟩)
    · exact h
    · omega
theorem cmpInNext {N : Nat} {g : Nat → Nat → Bool} {S T : Int → Int → Bool} {x : Int} {y j : Nat} (h : CmpIn N g S x y j T) (hj : j < (sucI N g y).length) {z : Int} (hz : (sucI N g y)[j] = z) : CmpIn N g S x y (j + 1) (fun u v => T u v || decide (u = x ∧ v = z)) := fun u v => by
  show (T u v || decide (u = x ∧ v = z)) = true ↔ _
  rw [Bool.or_eq_true, h u v, decide_eq_true_iff]
  constructor
  · rintro ((h1 | ⟨h1, i, hi, h2, h3⟩) | ⟨h1, h2⟩)
    · exact .inl h1
    · exact .inr ⟨h1, i, hi, by omega, h3⟩
    · exact .inr ⟨h1, j, hj, by omega, by rw [h2, hz]⟩
  · rintro (h1 | ⟨h1, i, hi, h2, h3⟩)
    · exact .inl (.inl h1)
    · by_cases e : i = j
      · subst e
        exact .inr ⟨h1, by rw [h3, hz]⟩
      · exact .inl (.inr ⟨h1, i, hi, by omega, h3⟩)
theorem cmpNext {N : Nat} {l : Prs} {g : Nat → Nat → Bool} {L S T : Int → Int → Bool} {x y : Nat} (h : CmpTo N l g L S) (hm : memP l x y = true) (hx : x < N) (hy : y < N) (hT : CmpIn N g S x y (sucI N g y).length T) :
    CmpTo N l g (fun u v => L u v && !decide (u = (x : Int) ∧ v = (y : Int))) T := fun u z => by
  rw [hT u z, h u z]
  constructor
  · rintro (⟨a, y', b, h1, h2, h3, h4, h5, h6, h7, h8⟩ | ⟨h1, i, hi, _, h2⟩)
    · exact ⟨a, y', b, h1, h2, h3, h4, h5, h6, by show (L a y' && _) = false; rw [h7]; rfl, h8⟩
    · obtain ⟨b, h3, h4, h5⟩ := sucMem.1 (List.getElem_mem hi)
      exact ⟨x, y, b, h1, by rw [h2, h3], hx, hy, h4, hm, by show (_ && !decide ((x : Int) = x ∧ (y : Int) = y)) = false; simp, h5⟩
  · rintro ⟨a, y', b, h1, h2, h3, h4, h5, h6, h7, h8⟩
    by_cases e : a = x ∧ y' = y
    · obtain ⟨rfl, rfl⟩ := e
      obtain ⟨i, hi, e2⟩ := List.getElem_of_mem (sucMem.2 ⟨b, rfl, h5, h8⟩)
      exact .inr ⟨h1, i, hi, hi, by rw [h2, e2]⟩
    · refine .inl ⟨a, y', b, h1, h2, h3, h4, h5, h6, ?_, h8⟩
      have h7 : (L a y' && !decide ((a : Int) = x ∧ (y' : Int) = y)) = false := h7
      rw [decide_eq_false (by omega)] at h7
      simpa using h7
theorem cmpDone {N : Nat} {l : Prs} {g : Nat → Nat → Bool} {L S : Int → Int → Bool} (hL : NoneP L) (hN : N ≤ 64) (h : CmpTo N l g L S) : TabS N S (cmpT N (hasP l) g) := fun x z => by
  rw [h x z]
  constructor
  · rintro ⟨a, y, b, h1, h2, h3, h4, h5, h6, h7, h8⟩
    exact ⟨a, b, h1, h2, h3, h5, cmpIff.2 ⟨y, h4, h6, h8⟩⟩
  · rintro ⟨a, b, h1, h2, h3, h4, h5⟩
    obtain ⟨y, h6, h7, h8⟩ := cmpIff.1 h5
    exact ⟨a, y, b, h1, h2, h3, h6, h4, h7, hL _ _ ⟨wfSmall (by omega) (by omega), wfSmall (by omega) (by omega)⟩, h8⟩

/-- A step that turns only a block that is new. -/
theorem chgPast {a b' c' : World} {F : Nat → Prop} {r : Nat} (h : Chg a b' F) (hg : b'.grownBy c' (some r)) (hr : a.heap.size ≤ r) : Chg a c' F :=
  ⟨hg.os.trans h.os, hg.tape.trans h.tape, hg.output.trans h.output, Nat.le_trans h.size hg.size, fun g hl hF => (hg.block g (Nat.lt_of_lt_of_le hl h.size) (fun e => by injection e with e; omega)).trans (h.block g hl hF)⟩
set_option maxHeartbeats 2000000 in
theorem iComposeNo (N M : Int) (l m : Prs) (n k : Nat) (hn : l.length = n) (hm : m.length = k) (hr : mtch N l M m = false) (A B : Option Addr) (c d : Nat) (w : World) (ha : Rp w A c l) (hb : Rp w B d m) :
    Calls Try.prog 18 #[relV N A n c, relV M B k d] w (GivesE 0 [] 1 w) := by
  obtain ⟨W, hW, hB0, hB1, hB2, hbW, _⟩ := threeBoxes w N M (.slice A n c) (.slice B k d)
  have HA := Lib.hid (ha.below hbW); clear ha
  have HB := Lib.hid (hb.below hbW); clear hb
  have HN := Lib.hid hn; clear hn
  have HM := Lib.hid hm; clear hm
  have HR := Lib.hid hr; clear hr
  have HB2 := Lib.hid hB2; clear hB2
  obtain ⟨c0, c1, _, _⟩ := hB0.facts
  obtain ⟨c2, c3, _, _⟩ := hB1.facts
  clear hB0 hB1
  go_enter Try.func18, Try.ntmps18
  go_wp2_with fail
  refine (iMatch N M l m n k HN.out HM.out false HR.out A B c d _ HA.out HB.out).mono ?_
  rintro e w1 ⟨rfl, b1⟩
  have HB3 := Lib.hid (HB2.out.below b1)
  obtain ⟨d2, d3, f2, f3⟩ := HB3.out.facts
  go_wp2
  refine bodyPost_ret (ResE (HB3.out.stored 0 (.slice none 0 0)) rfl _ rfl) rfl ?_
  exact ⟨none, 0, rfl, Rp.nil, ((hbW.trans (b1.mono hbW.size)).setCell (show w.heap.size ≤ w.heap.size + 1 + 1 by omega) _).setCell (show w.heap.size ≤ w.heap.size + 1 + 1 by omega) _⟩

set_option maxRecDepth 100000 in
set_option maxHeartbeats 4000000 in
theorem iComposeYes (N : Nat) (l m : Prs) (n k : Nat) (hN : N ≤ 64) (hn : l.length = n) (hm : m.length = k) (hl : okR N l = true) (hl' : okR N m = true) (L : Prs) (hL : nrm N (cmpT N (hasP l) (hasP m)) = L) (hs : n ≤ 15000) (hs' : k ≤ 15000) (A B : Option Addr) (c d : Nat) (w : World) (ha : Rp w A c l) (hb : Rp w B d m) :
    Calls Try.prog 18 #[relV N A n c, relV N B k d] w (GivesE N L 0 w) := by
  obtain ⟨W, hW, hB0, hB1, hB2, hbW, hzW⟩ := threeBoxes w N N (.slice A n c) (.slice B k d)
  have HA := Lib.hid (ha.below hbW); clear ha
  have HB := Lib.hid (hb.below hbW); clear hb
  have HN := Lib.hid hn; clear hn
  have HM := Lib.hid hm; clear hm
  have HR := Lib.hid (mtchIff.2 ⟨hl, hl', rfl⟩)
  have HW1 := Lib.hid (okWf hl)
  have HOK := Lib.hid hl
  have HOK' := Lib.hid hl'
  have HL := Lib.hid hL; clear hL hl hl'
  have HB0 := Lib.hid hB0; clear hB0
  have HB1 := Lib.hid hB1; clear hB1
  have HB2 := Lib.hid hB2; clear hB2
  obtain ⟨c0, c1, _, _⟩ := HB0.out.facts
  obtain ⟨c2, c3, _, _⟩ := HB1.out.facts
  have hmm := @run_makeMap Try.prog
  go_enter Try.func18, Try.ntmps18
  go_wp2_with fail
  refine (iMatch N N l m n k HN.out HM.out true HR.out A B c d _ HA.out HB.out).mono ?_
  rintro e w1 ⟨rfl, b1⟩
  have hb1 := hbW.trans (b1.mono hbW.size)
  obtain ⟨W1, hW1⟩ : ∃ W1, w1.alloc (.map #[] 0) = W1 := ⟨_, rfl⟩
  have bm : Below w1.heap.size w1 W1 := by rw [← hW1]; exact belowAlloc _ _
  have b1' := b1.trans (bm.mono b1.size)
  have HMP := Lib.hid (show MapP W1 w1.heap.size 0 (fun _ _ => false) by rw [← hW1]; exact MapP.made w1)
  have HB0 := Lib.hid (HB0.out.below b1')
  have HB1 := Lib.hid (HB1.out.below b1')
  have HB2 := Lib.hid (HB2.out.below b1')
  have HA := Lib.hid (HA.out.below b1')
  have HB := Lib.hid (HB.out.below b1')
  have hb2 := hb1.trans (bm.mono hb1.size)
  have hzm : w.heap.size + 3 ≤ w1.heap.size := by have := b1.size; omega
  have hzm2 : W1.heap.size = w1.heap.size + 1 := by rw [← hW1]; simp
  obtain ⟨c2, c3, _, _⟩ := HB1.out.facts
  go_wp2_with fail
  refine (iSucc N hN m k HM.out HOK'.out (by omega) B d _ HB.out).mono ?_
  rintro e w3 ⟨A3, d3, rfl, hrd, b3⟩
  have HRD := Lib.hid hrd; clear hrd hmm
  have HB0 := Lib.hid (HB0.out.below b3)
  have HB2 := Lib.hid (HB2.out.below b3)
  have HA := Lib.hid (HA.out.below b3)
  have HMP := Lib.hid (HMP.out.below b3)
  have hb3 := hb2.trans (b3.mono hb2.size)
  obtain ⟨c0, c1, _, _⟩ := HB0.out.facts
  go_wp2_with fail
  refine (iPairs N l n HN.out HW1.out (by omega) A c _ HA.out).mono ?_
  rintro e w4 ⟨p, rfl, m4, hp, b4⟩
  have HPP := Lib.hid m4; clear m4
  have HB0 := Lib.hid (HB0.out.below b4)
  have HB2 := Lib.hid (HB2.out.below b4)
  have HMP := Lib.hid (HMP.out.below b4)
  have HRD := Lib.hid (HRD.out.below b4)
  have hb4 := hb3.trans (b4.mono hb3.size)
  have hz4 : w1.heap.size < w4.heap.size := HMP.out.lt
  have hpz : w1.heap.size < p := by have := b3.size; omega
  have hpl := HPP.out.lt
  go_wp2_with (at_range; refine wpList_rangeP w4 rfl (.tmp 20) rfl p n (memP l) rfl HPP.out ?_; intro w5 cnt0 hr5 hc5 hb5 hz5; have HR5 := Lib.hid hr5; have HB5 := Lib.hid hb5; clear hr5 hb5)
  go_frame
  obtain ⟨g, hg⟩ : ∃ g, hasP m = g := ⟨_, rfl⟩
  rw [hg] at HRD HL
  clear hg c0 c1 c2 c3
  go_loopw [22] (fun _ wr => ∃ (Lf S : Int → Int → Bool) (cnt q e : Nat), q + cnt ≤ n ∧ Hid (RngP wr p w4.heap.size n (memP l) Lf cnt) ∧ Hid (MapP wr w1.heap.size e S) ∧ e ≤ q * N ∧ Hid (CmpTo N l g Lf S) ∧ Hid (Chg w4 wr (fun b => b ≠ w1.heap.size)) ∧ Hid (∀ x y, Lf x y = true → memP l x y = true)) (fun _ wr => wr.rangeLeft p w4.heap.size)
  case atStart => exact ⟨memP l, _, cnt0, 0, 0, by omega, HR5, Lib.hid (HMP.out.below HB5.out), by omega, Lib.hid cmpStart, Lib.hid (Chg.ofBelow HB5.out _), Lib.hid fun _ _ h => h⟩
  case round =>
    clear HR5 hc5 hz5
    obtain ⟨Lf, S, cnt, q, e, hq, HRG, HMS, he, HCT, HC, HLF⟩ := hrel
    have hsz := HC.out.size
    go_wp2_with (at_next; refine wpList_nextP _ rfl _ rfl p w4.heap.size n (memP l) Lf cnt rfl HRG.out ?_ ?_)
    · intro hdone
      have HT := Lib.hid (cmpDone hdone hN HCT.out)
      clear hdone
      have hnl : q * N ≤ n * N := Nat.mul_le_mul_right N (by omega)
      have hnl2 : n * N ≤ 15000 * 64 := Nat.mul_le_mul hs hN
      have HB0 := Lib.hid (boxKeptM HMP.out HC.out HB0.out)
      have HB2 := Lib.hid (boxKeptM HMP.out HC.out HB2.out)
      have hbr : Below w.heap.size w wr := hb4.trans ⟨HC.out.os, HC.out.tape, HC.out.output, HC.out.size, fun g hg => HC.out.block g (by have := hb4.size; omega) (by omega)⟩
      obtain ⟨c0, c1, _, _⟩ := HB0.out.facts
      go_wp2_with fail
      refine (iNormalT N w1.heap.size e _ _ hN HT.out L HL.out (by omega) _ HMS.out).mono ?_
      rintro e6 w6 ⟨A', c', rfl, hr, b6⟩
      have HRP := Lib.hid hr; clear hr
      have HB2 := Lib.hid (HB2.out.below b6)
      have hb6 := hbr.trans (b6.mono hbr.size)
      obtain ⟨d2, d3', f2, f3⟩ := HB2.out.facts
      go_wp2
      refine bodyPost_ret (ResE (HB2.out.stored N (.slice A' L.length c')) rfl _ rfl) rfl ?_
      exact ⟨A', c', rfl, HRP.out.stored HB2.out _ _, (hb6.setCell (show w.heap.size ≤ w.heap.size + 1 + 1 by omega) _).setCell (show w.heap.size ≤ w.heap.size + 1 + 1 by omega) _⟩
    · intro x y w6 cnt6 hx hen
      obtain ⟨hw, hl, hr6, hlt6, hg6, hz6⟩ := hx
      have hmem := HLF.out x y hl
      have hlf0 := RngP.left_eq HRG.out
      obtain ⟨a, ya, rfl, rfl, haN, hyN, hp⟩ := (tabOf HOK.out x y).1 hmem
      have HMEM := Lib.hid hmem; clear hmem hp
      have HWF := Lib.hid hw; clear hw
      obtain ⟨X, hX⟩ : ∃ X, w6.alloc (.cells #[.int .i64 a, .int .i64 ya] 38) = X := ⟨_, rfl⟩
      have hx0 : X.cell? ⟨w6.heap.size, 0, none⟩ = some (.int .i64 a) := by rw [← hX]; simp
      have hx1 : X.cell? ⟨w6.heap.size, 1, none⟩ = some (.int .i64 ya) := by rw [← hX]; simp
      have hCX : Chg w4 X (fun b => b ≠ w1.heap.size) := (chgPast HC.out hg6 (Nat.le_refl _)).trans (by rw [← hX]; exact Chg.alloc w6 _ _) fun _ _ h => h
      have HCX := Lib.hid hCX; clear hCX
      have HRX := Lib.hid (show RngP X p w4.heap.size n (memP l) (fun u v => Lf u v && !decide (u = (a : Int) ∧ v = (ya : Int))) cnt6 by rw [← hX]; exact hr6.alloc _)
      have HMX : Hid (MapP X w1.heap.size e S) := Lib.hid (by
        have h1 := HMS.out.chg (Chg.ofGrown hg6 (F := fun g => g ≠ w4.heap.size) fun k hk e => hk (by injection e with e; exact e.symm)) (show w1.heap.size ≠ w4.heap.size by omega)
        rw [← hX]; exact h1.alloc _)
      clear hr6 hg6
      obtain ⟨ad, A6, c6, rfl, _, hcr, hrr⟩ := (rdfKept HMP.out HCX.out HRD.out).one hyN
      have HRR := Lib.hid hrr; clear hrr
      have hlr := HRR.out.le
      have hmr := Rd.max HRR.out
      unfold maxLen at hmr
      have hsl := sucLen N g ya
      obtain ⟨ln, hln⟩ : ∃ ln, (sucI N g ya).length = ln := ⟨_, rfl⟩
      rw [hln] at hcr hlr hsl
      have HLN := Lib.hid hln; clear hln
      rw [hz6] at hx0 hx1
      go_wp2
      go_loopw [32] (fun i wr => ∃ (j e2 : Nat) (T : Int → Int → Bool), j ≤ ln ∧ i = .int .i64 j ∧ Hid (MapP wr w1.heap.size e2 T) ∧ e2 ≤ e + j ∧ Hid (CmpIn N g S a ya j T) ∧ Hid (Chg X wr (fun b => b ≠ w1.heap.size))) (fun i _ => ln - (intOf i).toNat)
      case atStart => exact ⟨0, e, S, Nat.zero_le _, rfl, HMX, by omega, Lib.hid cmpInStart, Lib.hid (Chg.refl _ _)⟩
      case round =>
        obtain ⟨j, e2, T, hj, rfl, HMT, he2, HCI, HCC⟩ := hrel
        by_cases hjl : j < ln
        · have hjs : j < (sucI N g ya).length := by rw [HLN.out]; exact hjl
          obtain ⟨z, hz, hzN, hgz⟩ := sucMem.1 (List.getElem_mem hjs)
          obtain ⟨ad1, rfl, _, hcj⟩ := (rdKept HRR.out HMX.out HCC.out).one hjs
          rw [hz] at hcj
          have HZ := Lib.hid hz; clear hz
          have hp0 := cellKept HMX.out HCC.out hx0
          have HWZ := Lib.hid (show wfP (a : Int) (z : Int) from ⟨wfSmall (by omega) (by omega), wfSmall (by omega) (by omega)⟩)
          have hnl : q * N ≤ n * N := Nat.mul_le_mul_right N (by omega)
          have hnl2 : n * N ≤ 15000 * 64 := Nat.mul_le_mul hs hN
          go_wp2_with (at_mapUpdate; refine wpList_putP _ rfl (.tmp 36) (.tmp 40) (.const (.bool true)) rfl w1.heap.size e2 T HMT.out (by unfold maxLen; omega) rfl a z rfl HWZ.out rfl ?_; intro w7 m7 g7; have HM7 := Lib.hid m7; have G7 := Lib.hid (Chg.ofGrown g7 (F := fun g => g ≠ w1.heap.size) fun k hk e => hk (by injection e with e; exact e.symm)); clear m7 g7)
          have HN7 := Lib.hid (cmpInNext HCI.out hjs HZ.out)
          go_roundw
          case rel => exact ⟨j + 1, e2 + 1, _, by omega, by go_num, HM7, by omega, HN7, Lib.hid (HCC.out.trans G7.out fun _ _ h => h)⟩
          case measure => simp [intOf]; omega
        · obtain rfl : j = ln := by omega
          have HN8 := Lib.hid (cmpNext HCT.out HMEM.out haN hyN (by rw [HLN.out]; exact HCI.out))
          have HR8 := Lib.hid (HRX.out.chg HCC.out (show p ≠ w1.heap.size by omega) (show w4.heap.size ≠ w1.heap.size by omega))
          have hqn : (q + 1) * N = q * N + N := by rw [Nat.add_mul, Nat.one_mul]
          have HC8 := Lib.hid (HCX.out.trans HCC.out fun _ _ h => h)
          have HL8 := Lib.hid (show ∀ u v, (Lf u v && !decide (u = (a : Int) ∧ v = (ya : Int))) = true → memP l u v = true from fun u v h => HLF.out u v (by have h : (Lf u v && !decide (u = (a : Int) ∧ v = (ya : Int))) = true := h; rw [Bool.and_eq_true] at h; exact h.1))
          have hll := RngP.left_eq HR8.out
          have hcnt := hlt6
          go_wp2
          go_roundw
          case rel => exact ⟨_, T, cnt6, q + 1, e2, by omega, HR8, HMT, by omega, HN8, HC8, HL8⟩
          case measure => rw [hll, hlf0]; exact hcnt
end Go.Proofs.Ytpfdhjmhoggioaa
