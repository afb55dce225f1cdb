/-
  The contract of the program's Closure.
-/
import Derived.Test.YtpfdhjmhoggioaaRDef
import Derived.Test.YtpfdhjmhoggioaaRClo
import Derived.Test.YtpfdhjmhoggioaaRSuc
import Derived.Laws.EntriesVeiled
namespace Go.Proofs.Ytpfdhjmhoggioaa
open Go.RowKit Go.Maps

/-- The rows of the first k numbers are full, the rest are empty. -/
def CloTo (N : Nat) (f : Nat → Nat → Bool) (k : Nat) (S : Int → Int → Bool) : Prop := ∀ x y, S x y = true ↔ ∃ a b : Nat, x = (a : Int) ∧ y = (b : Int) ∧ a < k ∧ b < N ∧ tcT N f a b = true
theorem cloStart (N : Nat) (f : Nat → Nat → Bool) : CloTo N f 0 (fun _ _ => false) := fun x y => by
  constructor
  · intro h; cases h
  · rintro ⟨a, b, _, _, h, _⟩; omega
theorem cloNext {N : Nat} {f : Nat → Nat → Bool} {k : Nat} {S T : Int → Int → Bool} (h : CloTo N f k S) (hk : k < N) (hv : Vis N f k k S T) : CloTo N f (k + 1) T := fun x y => by
  have h0 : ∀ z, S k z = false := fun z => by
    cases e : S k z
    · rfl
    · obtain ⟨a, b, h1, _, h3, _⟩ := (h _ _).1 e
      omega
  constructor
  · intro ht
    rcases hv.only x y ht with h1 | ⟨rfl, b, rfl, hb, h1⟩
    · obtain ⟨a, b, h2, h3, h4, h5⟩ := (h _ _).1 h1
      exact ⟨a, b, h2, h3, by omega, h5⟩
    · exact ⟨k, b, rfl, rfl, by omega, hb, h1⟩
  · rintro ⟨a, b, rfl, rfl, h1, h2, h3⟩
    by_cases e : a = k
    · subst e
      rw [visAll hv h0 hk h2]
      exact h3
    · exact hv.mono _ _ ((h _ _).2 ⟨a, b, rfl, rfl, by omega, h2, h3⟩)
theorem cloTab {N : Nat} {f : Nat → Nat → Bool} {S : Int → Int → Bool} (h : CloTo N f N S) : TabS N S (tcT N f) := h
theorem cellKept {w w' : World} {b n : Nat} {S : Int → Int → Bool} (hm : MapP w b n S) (hc : Chg w w' (fun g => g ≠ b)) {a : Addr} {u : Value} (hu : w.cell? a = some u) : w'.cell? a = some u :=
  (World.cell?_of_block (hc.block _ (World.block_lt_of_cell? w a hu) (mapNoCells hm (cellsOf hu)))).trans hu
theorem rdfKept {w w' : World} {b n : Nat} {S : Int → Int → Bool} (hm : MapP w b n S) (hc : Chg w w' (fun g => g ≠ b)) {A : Option Addr} {c N : Nat} {C : Nat → List Int} (h : RdF w A c C N) : RdF w' A c C N := by
  obtain ⟨vs, h1, h2, h3⟩ := h
  refine ⟨vs, ⟨h1.le, h1.max, fun hn => ?_⟩, h2, fun i hi => ?_⟩
  · obtain ⟨ad, e, hl, hcell⟩ := h1.at_ hn
    exact ⟨ad, e, Nat.lt_of_lt_of_le hl hc.size, fun j u hu => cellKept hm hc (hcell j u hu)⟩
  · obtain ⟨A', c', e, hr⟩ := h3 i hi
    exact ⟨A', c', e, rdKept hr hm hc⟩
theorem boxKeptM {w w' : World} {b n B : Nat} {S : Int → Int → Bool} (hm : MapP w b n S) (hc : Chg w w' (fun g => g ≠ b)) {N : Int} {v : Value} (h : BoxR w B N v) : BoxR w' B N v :=
  (hc.block B h.lt (mapNoCells hm ⟨_, _, _, h⟩)).trans h

set_option maxRecDepth 100000 in
set_option maxHeartbeats 4000000 in
theorem iClosure (N : Int) (l : Prs) (n : Nat) (hn : l.length = n) (hs : n ≤ 65536) (A : Option Addr) (c : Nat) (w : World) (ha : Rp w A c l) :
    Calls Try.prog 27 #[relV N A n c] w (GivesR (nrmN N l) (cloL N l) w) := by
  obtain ⟨W, hW, hB0, hB1, hbW, hszW⟩ := argBoxes w N (.slice A n c)
  have HA := Lib.hid (ha.below hbW); clear ha
  have HN := Lib.hid hn; clear hn
  have HB0 := Lib.hid hB0; clear hB0
  have HB1 := Lib.hid hB1; clear hB1
  obtain ⟨c0, c1, _, _⟩ := HB0.out.facts
  rcases hv : okR N l with _ | _
  · have HV := Lib.hid hv
    have e1 : nrmN N l = 0 := by unfold nrmN; rw [hv]; rfl
    have e2 : cloL N l = [] := by unfold cloL; rw [hv]; rfl
    rw [e1, e2]
    clear hv e1 e2
    go_enter Try.func27, Try.ntmps27
    go_wp2_with fail
    refine (iValid N l n HN.out false HV.out A c _ HA.out).mono ?_
    rintro e w1 ⟨rfl, b1⟩
    have HB1 := Lib.hid (HB1.out.below b1)
    obtain ⟨c2, c3, f2, f3⟩ := HB1.out.facts
    go_wp2
    refine bodyPost_ret (ResR (HB1.out.stored 0 (.slice none 0 0)) rfl _ rfl) rfl ?_
    exact ⟨none, 0, rfl, Rp.nil, ((hbW.trans (b1.mono hbW.size)).setCell (Nat.le_succ _) _).setCell (Nat.le_succ _) _⟩
  · obtain ⟨K, rfl, hK⟩ := okNat hv
    have e1 : nrmN K l = K := by unfold nrmN; rw [hv]; rfl
    obtain ⟨L, e2⟩ : ∃ L, nrm K (tcT K (hasP l)) = L := ⟨_, rfl⟩
    have e3 : cloL K l = L := by unfold cloL; rw [hv, ← e2]; rfl
    rw [e1, e3]
    have HL := Lib.hid e2
    have HV := Lib.hid hv
    clear hv e1 e2 e3
    obtain ⟨f, hf⟩ : ∃ f, hasP l = f := ⟨_, rfl⟩
    have HF := Lib.hid hf; clear hf
    have hmm := @run_makeMap Try.prog
    go_enter Try.func27, Try.ntmps27
    go_wp2_with fail
    refine (iValid K l n HN.out true HV.out A c _ HA.out).mono ?_
    rintro e w1 ⟨rfl, b1⟩
    have HB0 := Lib.hid (HB0.out.below b1)
    have HB1 := Lib.hid (HB1.out.below b1)
    have HA := Lib.hid (HA.out.below b1)
    have hbw := hbW.trans (b1.mono hbW.size)
    have hz1 := b1.size
    obtain ⟨W2, hW2⟩ : ∃ W2, (w1.alloc (.map #[] 0)).alloc (.cells #[.map (some w1.heap.size)] 42) = W2 := ⟨_, rfl⟩
    have b2 : Below w1.heap.size w1 W2 := by rw [← hW2]; exact (belowAlloc _ _).alloc (by simp) _
    have hz2 : W2.heap.size = w1.heap.size + 2 := by rw [← hW2]; simp
    have HM2 : Hid (MapP W2 w1.heap.size 0 (fun _ _ => false)) := by rw [← hW2]; exact Lib.hid ((MapP.made w1).alloc _)
    have HB0 := Lib.hid (HB0.out.below b2)
    have HB1 := Lib.hid (HB1.out.below b2)
    have HA := Lib.hid (HA.out.below b2)
    have hbw2 := hbw.trans (b2.mono hbw.size)
    have hcb : W2.cell? ⟨w1.heap.size + 1, 0, none⟩ = some (.map (some w1.heap.size)) := by rw [← hW2, World.cell?_alloc_at _ _ _ _ (by simp)]; rfl
    obtain ⟨c0, c1, _, _⟩ := HB0.out.facts
    go_wp2_with fail
    refine (iSucc K hK l n HN.out HV.out hs A c _ HA.out).mono ?_
    rintro e w3 ⟨A3, c3', rfl, hrd, b3⟩
    rw [HF.out] at hrd
    clear hmm
    obtain ⟨W4, hW4⟩ : ∃ W4, w3.alloc (.cells #[.slice A3 K c3'] 48) = W4 := ⟨_, rfl⟩
    have b4 : Below W2.heap.size W2 W4 := by rw [← hW4]; exact b3.alloc b3.size _
    have hnb : W4.cell? ⟨w3.heap.size, 0, none⟩ = some (.slice A3 K c3') := by rw [← hW4]; simp
    have HM4 := Lib.hid (HM2.out.below b4)
    have HRD := Lib.hid (show RdF W4 A3 c3' (sucI K f) K by rw [← hW4]; exact hrd.below (belowAlloc _ _))
    have HB0 := Lib.hid (HB0.out.below b4)
    have HB1 := Lib.hid (HB1.out.below b4)
    have hcb4 := cellKept HM2.out (Chg.ofBelow b4 (fun g => g ≠ w1.heap.size)) hcb
    have hbw4 := hbw2.trans (b4.mono hbw2.size)
    have hz4 : w1.heap.size + 1 < w3.heap.size := by have := b3.size; omega
    have hz4' : W4.heap.size = w3.heap.size + 1 := by rw [← hW4]; simp
    clear hrd b3 hcb
    obtain ⟨c0, c1, _, _⟩ := HB0.out.facts
    go_wp2
    go_loopw [16] (fun i wr => ∃ (k cnt : Nat) (S : Int → Int → Bool), k ≤ K ∧ i = .int .i64 k ∧ Hid (MapP wr w1.heap.size cnt S) ∧ cnt ≤ k * K ∧ Hid (CloTo K f k S) ∧ Hid (Chg W4 wr (fun g => g ≠ w1.heap.size))) (fun i _ => K - (intOf i).toNat)
    case atStart => exact ⟨0, 0, _, Nat.zero_le _, rfl, HM4, by omega, Lib.hid (cloStart K f), Lib.hid (Chg.refl _ _)⟩
    case round =>
      obtain ⟨k, cnt, S, hk, rfl, HM, hcnt, HT, HC⟩ := hrel
      have hszr := HC.out.size
      by_cases hlt : k < K
      · obtain ⟨X, hX⟩ : ∃ X, (wr.alloc (.cells #[.int .i64 k] 3)).alloc (.cells #[.func (.func 46) #[] #[.pointer (some ⟨w3.heap.size, 0, none⟩), .pointer (some ⟨wr.heap.size, 0, none⟩), .pointer (some ⟨w1.heap.size + 1, 0, none⟩), .pointer (some ⟨wr.heap.size + 1, 0, none⟩)]] 55) = X := ⟨_, rfl⟩
        have bX : Below wr.heap.size wr X := by rw [← hX]; exact (belowAlloc _ _).alloc (by simp) _
        have hx1 : X.cell? ⟨wr.heap.size, 0, none⟩ = some (.int .i64 k) := by rw [← hX]; simp
        have hx2 : X.cell? ⟨wr.heap.size + 1, 0, none⟩ = some (.func (.func 46) #[] #[.pointer (some ⟨w3.heap.size, 0, none⟩), .pointer (some ⟨wr.heap.size, 0, none⟩), .pointer (some ⟨w1.heap.size + 1, 0, none⟩), .pointer (some ⟨wr.heap.size + 1, 0, none⟩)]) := by rw [← hX, World.cell?_alloc_at _ _ _ _ (by simp)]; rfl
        have hC4 : Chg W4 X (fun g => g ≠ w1.heap.size) := HC.out.trans (Chg.ofBelow bX fun g => g ≠ w1.heap.size) fun _ _ h => h
        have HEV : Hid (EnvV X w3.heap.size wr.heap.size (w1.heap.size + 1) (wr.heap.size + 1) A3 c3' K w1.heap.size k f) := Lib.hid ⟨cellKept HM4.out hC4 hnb, hx1, cellKept HM4.out hC4 hcb4, hx2, rdfKept HM4.out hC4 HRD.out⟩
        have HMX := Lib.hid (HM.out.below bX)
        have hmul : k * K + K = (k + 1) * K := by rw [Nat.add_mul, Nat.one_mul]
        have hmul2 : (k + 1) * K ≤ 64 * 64 := Nat.mul_le_mul (by omega) hK
        have hlk := lackMax K S k
        have HVI := Lib.hid (iVisit K hK f w3.heap.size wr.heap.size (w1.heap.size + 1) (wr.heap.size + 1) A3 c3' w1.heap.size k hlt ((k + 1) * K) (by omega) _ k S cnt X hlt rfl (by omega) HEV HMX)
        have HBX := Lib.hid bX; clear bX
        go_wp2_with fail
        refine HVI.out.mono ?_
        rintro e w5 ⟨rfl, T, k5, HV5, m5, hk5, c5⟩
        have HM5 := Lib.hid m5; clear m5
        have HN5 := Lib.hid (cloNext HT.out hlt HV5.out)
        have HC5 := Lib.hid (hC4.trans c5 fun _ _ h => h)
        clear c5
        go_wp2
        go_roundw
        case rel => exact ⟨k + 1, k5, T, by omega, by go_num, HM5, by omega, HN5, HC5⟩
        case measure => simp [intOf]; omega
      · obtain rfl : k = K := by omega
        have hmul2 : k * k ≤ 64 * 64 := Nat.mul_le_mul hK hK
        have HB0r := Lib.hid (boxKeptM HM4.out HC.out HB0.out)
        have HB1r := Lib.hid (boxKeptM HM4.out HC.out HB1.out)
        have hcbr := cellKept HM4.out HC.out hcb4
        have hbr : Below w.heap.size w wr := hbw4.trans ⟨HC.out.os, HC.out.tape, HC.out.output, HC.out.size, fun g hg => HC.out.block g (by have := hbw4.size; omega) (by have := hbw.size; omega)⟩
        obtain ⟨d0, d1, _, _⟩ := HB0r.out.facts
        go_wp2_with fail
        refine (iNormalT k w1.heap.size cnt _ _ hK (cloTab HT.out) L (by rw [← HF.out] at *; exact HL.out) (by omega) _ HM.out).mono ?_
        rintro e w5 ⟨A', c', rfl, hr, b5⟩
        have HRP := Lib.hid hr; clear hr
        have HB5 := Lib.hid (HB1r.out.below b5)
        have hb5 := hbr.trans (b5.mono hbr.size)
        obtain ⟨d2, d3, f2, f3⟩ := HB5.out.facts
        go_wp2
        refine bodyPost_ret (ResR (HB5.out.stored k (.slice A' L.length c')) rfl _ rfl) rfl ?_
        exact ⟨A', c', rfl, HRP.out.stored HB5.out _ _, (hb5.setCell (Nat.le_succ _) _).setCell (Nat.le_succ _) _⟩
end Go.Proofs.Ytpfdhjmhoggioaa
