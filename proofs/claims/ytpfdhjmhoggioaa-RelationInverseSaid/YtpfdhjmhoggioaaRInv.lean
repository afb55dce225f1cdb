/-
  The contract of the program's Inverse.
-/
import Derived.Test.YtpfdhjmhoggioaaRDef
import Derived.Test.YtpfdhjmhoggioaaRUni
namespace Go.Proofs.Ytpfdhjmhoggioaa
open Go.RowKit Go.Maps

/-- A boxed relation and the box of the result. -/
theorem argBoxes (w : World) (N : Int) (u : Value) : ∃ W, (w.alloc (.cells #[.int .i64 N, u] 24)).alloc (.cells #[.int .i64 0, .slice none 0 0] 24) = W ∧ BoxR W w.heap.size N u ∧ BoxR W (w.heap.size + 1) 0 (.slice none 0 0) ∧ Below w.heap.size w W ∧ W.heap.size = w.heap.size + 2 := twoBoxes w N 0 u (.slice none 0 0)
/-- The pairs the other way round. -/
def swpL (l : Prs) : Prs := l.map fun p => (p.2, p.1)
theorem memSwp {l : Prs} {x y : Int} : (x, y) ∈ swpL l ↔ (y, x) ∈ l := by
  unfold swpL
  rw [List.mem_map]
  constructor
  · rintro ⟨⟨a, b⟩, h1, h2⟩
    obtain ⟨rfl, rfl⟩ := Prod.mk.inj h2
    exact h1
  · intro h; exact ⟨(y, x), h, rfl⟩
theorem lenSwp (l : Prs) : (swpL l).length = l.length := by simp [swpL]
theorem tabInv {n : Nat} {l : Prs} (h : okR n l = true) : TabS n (memP (swpL l)) (invT (hasP l)) := fun x y => by
  have := tabOf h y x
  unfold memP at this ⊢
  rw [decide_eq_true_iff] at this ⊢
  rw [memSwp, this]
  constructor
  · rintro ⟨a, b, h1, h2, h3, h4, h5⟩; exact ⟨b, a, h2, h1, h4, h3, h5⟩
  · rintro ⟨a, b, h1, h2, h3, h4, h5⟩; exact ⟨b, a, h2, h1, h4, h3, h5⟩
theorem swpSucc {l : Prs} {k : Nat} (hk : k < l.length) (x y : Int) : (memP (swpL (l.take k)) x y || decide (x = l[k].2 ∧ y = l[k].1)) = memP (swpL (l.take (k + 1))) x y := by
  have := memPSucc hk y x
  unfold memP at this ⊢
  rw [Bool.eq_iff_iff, Bool.or_eq_true, decide_eq_true_iff, decide_eq_true_iff, decide_eq_true_iff] at this ⊢
  rw [memSwp, memSwp]
  constructor
  · rintro (h | h)
    · exact this.1 (.inl h)
    · exact this.1 (.inr ⟨h.2, h.1⟩)
  · intro h
    rcases this.2 h with h | h
    · exact .inl h
    · exact .inr ⟨h.2, h.1⟩

set_option maxHeartbeats 2000000 in
theorem iInverse (N : Int) (l : Prs) (n : Nat) (hn : l.length = n) (hs : n ≤ 65536) (A : Option Addr) (c : Nat) (w : World) (ha : Rp w A c l) :
    Calls Try.prog 20 #[relV N A n c] w (GivesR (nrmN N l) (invL N l) w) := by
  obtain ⟨W, hW, hB0, hB1, hbW, hszW⟩ := argBoxes w N (.slice A n c)
  have hla := ha.le
  have hca := ha.max
  unfold maxLen at hca
  have HA := Lib.hid (ha.below hbW); clear ha
  have HN := Lib.hid hn; clear hn
  have HB0 := Lib.hid hB0; clear hB0
  have HB1 := Lib.hid hB1; clear hB1
  obtain ⟨c0, c1, _, _⟩ := HB0.out.facts
  rcases hv : okR N l with _ | _
  · have HV := Lib.hid hv
    have e1 : nrmN N l = 0 := by unfold nrmN; rw [hv]; rfl
    have e2 : invL N l = [] := by unfold invL; rw [hv]; rfl
    rw [e1, e2]
    clear hv e1 e2
    go_enter Try.func20, Try.ntmps20
    go_wp2_with fail
    refine (iValid N l n HN.out false HV.out A c _ HA.out).mono ?_
    rintro e w1 ⟨rfl, b1⟩
    have HB1 := Lib.hid (HB1.out.below b1)
    obtain ⟨c2, c3, f2, f3⟩ := HB1.out.facts
    go_wp2
    refine bodyPost_ret (ResR (HB1.out.stored 0 (.slice none 0 0)) rfl _ rfl) rfl ?_
    exact ⟨none, 0, rfl, Rp.nil, ((hbW.trans (b1.mono hbW.size)).setCell (Nat.le_succ _) _).setCell (Nat.le_succ _) _⟩
  · obtain ⟨K, rfl, hK⟩ := okNat hv
    have e1 : nrmN K l = K := by unfold nrmN; rw [hv]; rfl
    obtain ⟨L, e2⟩ : ∃ L, nrm K (invT (hasP l)) = L := ⟨_, rfl⟩
    have e3 : invL K l = L := by unfold invL; rw [hv, ← e2]; rfl
    rw [e1, e3]
    have HL := Lib.hid e2
    have HT := Lib.hid (tabInv hv)
    have HWF := Lib.hid (okWf hv)
    have HV := Lib.hid hv
    clear hv e1 e2 e3
    have hmm := @run_makeMap Try.prog
    go_enter Try.func20, Try.ntmps20
    go_wp2_with fail
    refine (iValid K l n HN.out true HV.out A c _ HA.out).mono ?_
    rintro e w1 ⟨rfl, b1⟩
    have HB0 := Lib.hid (HB0.out.below b1)
    have HB1 := Lib.hid (HB1.out.below b1)
    have HA := Lib.hid (HA.out.below b1)
    have hbw := hbW.trans (b1.mono hbW.size)
    have hz1 := b1.size
    have hbm := hbw.alloc hbw.size (.map #[] 0)
    have HB0m := Lib.hid (HB0.out.alloc (.map #[] 0))
    have HB1m := Lib.hid (HB1.out.alloc (.map #[] 0))
    have HAm := Lib.hid (HA.out.alloc (.map #[] 0))
    have HM0 := Lib.hid ((MapP.made w1).congr (T := memP (swpL (l.take 0))) fun x y _ => by simp [memP, swpL])
    obtain ⟨c0, c1, _, _⟩ := HB0m.out.facts
    go_wp2
    clear hmm
    go_loopw [14] (fun i wr => ∃ k : Nat, k ≤ n ∧ i = .int .i64 k ∧ Hid (MapP wr w1.heap.size k (memP (swpL (l.take k)))) ∧ Hid (Chg (w1.alloc (.map #[] 0)) wr (fun g => g ≠ w1.heap.size)) ∧ w1.heap.size < wr.heap.size) (fun i _ => n - (intOf i).toNat)
    case atStart => exact ⟨0, Nat.zero_le _, rfl, HM0, Lib.hid (Chg.refl _ _), by simp⟩
    case round =>
      clear HM0
      obtain ⟨k, hk, rfl, HM, HC, hsz⟩ := hrel
      by_cases hlt : k < n
      · have hkl : k < l.length := by have := HN.out; omega
        have HAr := Lib.hid (HAm.out.chg HC.out (fun ad h1 h2 => by
          obtain ⟨b, off, e, hl, _⟩ := HA.out.at_ h2
          rw [h1] at e
          injection e with e
          subst e
          exact Nat.ne_of_lt hl))
        obtain ⟨b, off, rfl, had, hc1, hc2⟩ := HAr.out.one hkl
        have HK := Lib.hid (wfAt HWF.out hkl)
        have HS := Lib.hid (swpSucc hkl)
        generalize l[k].1 = x at *
        generalize l[k].2 = y at *
        go_wp2_with (at_mapUpdate; refine wpList_putP _ rfl (.tmp 18) (.tmp 23) (.const (.bool true)) rfl w1.heap.size k _ (HM.out.alloc _) (by unfold maxLen; omega) rfl y x rfl ⟨HK.out.2, HK.out.1⟩ rfl ?_; intro w4 m4 g4; have HM4 := Lib.hid (m4.congr fun u v _ => HS.out u v); have G4 := Lib.hid (Chg.ofGrown g4 (F := fun g => g ≠ w1.heap.size) fun k hk e => hk (by injection e with e; exact e.symm)); clear g4 m4)
        go_roundw
        case rel => exact ⟨k + 1, by omega, by go_num, HM4, Lib.hid ((HC.out.trans (Chg.alloc wr _ _) fun _ _ h => h).trans G4.out fun _ _ h => h), by have := G4.out.size; simp at this; omega⟩
        case measure => simp [intOf]; omega
      · obtain rfl : k = n := by omega
        have HM2 : Hid (MapP wr w1.heap.size k (memP (swpL l))) := by
          have h := HM.out
          rw [List.take_of_length_le (by have := HN.out; omega)] at h
          exact Lib.hid h
        have hcs := HC.out.size
        have HB0r : Hid (BoxR wr w.heap.size K (.slice A k c)) := Lib.hid ((HC.out.block _ HB0m.out.lt (by omega)).trans HB0m.out)
        have HB1r : Hid (BoxR wr (w.heap.size + 1) 0 (.slice none 0 0)) := Lib.hid ((HC.out.block _ HB1m.out.lt (by omega)).trans HB1m.out)
        have hbr : Below w.heap.size w wr := hbm.trans ⟨HC.out.os, HC.out.tape, HC.out.output, HC.out.size, fun g hg => HC.out.block g (by have := hbm.size; omega) (by omega)⟩
        obtain ⟨d0, d1, _, _⟩ := HB0r.out.facts
        go_wp2_with fail
        refine (iNormalT K w1.heap.size k _ _ hK HT.out L HL.out (by omega) _ HM2.out).mono ?_
        rintro e w5 ⟨A', c', rfl, hr, b5⟩
        have HRP := Lib.hid hr; clear hr
        have HB5 := Lib.hid (HB1r.out.below b5)
        have hb5 := hbr.trans (b5.mono hbr.size)
        obtain ⟨d2, d3, f2, f3⟩ := HB5.out.facts
        go_wp2
        refine bodyPost_ret (ResR (HB5.out.stored K (.slice A' L.length c')) rfl _ rfl) rfl ?_
        exact ⟨A', c', rfl, HRP.out.stored HB5.out _ _, (hb5.setCell (Nat.le_succ _) _).setCell (Nat.le_succ _) _⟩
end Go.Proofs.Ytpfdhjmhoggioaa
