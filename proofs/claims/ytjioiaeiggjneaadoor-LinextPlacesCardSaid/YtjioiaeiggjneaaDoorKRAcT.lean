/-
  The contract of Acyclic.
-/
import Derived.Test.YtjioiaeiggjneaaDoorKRDef
import Derived.Test.YtjioiaeiggjneaaDoorKRAc
import Derived.RegionTactic
import Derived.ChangeAlike
import Derived.BigRegion
import Derived.Deep.OwnRows
import Derived.Deep.CutRange
import Derived.Laws.EntriesVeiled
namespace Go.Proofs.YtjioiaeiggjneaaDoor
open Go.RowKit Go.Maps


/-- Between two calls from the loop: all that was entered was left; the numbers below k were left. -/
structure AcTop (n : Nat) (f : Nat → Nat → Bool) (k : Nat) (E L : Nat → Bool) : Prop extends AcOk n f E L where
  white : ∀ x, x < n → E x = true → L x = true
  done : ∀ x, x < k → L x = true
theorem acTop0 (n : Nat) (f : Nat → Nat → Bool) : AcTop n f 0 (fun _ => false) (fun _ => false) :=
  ⟨⟨fun _ _ _ _ h => (by cases h), fun _ _ h => (by cases h), fun _ h => (by cases h)⟩, fun _ _ h => (by cases h), fun _ h => absurd h (by omega)⟩
theorem acTopIn {n k : Nat} {f : Nat → Nat → Bool} {E L : Nat → Bool} (h : AcTop n f k E L) : AcIn n f E L k :=
  ⟨h.toAcOk, fun x hx h1 h2 => by rw [h.white x hx h1] at h2; cases h2⟩
theorem acTopNext {n k : Nat} {f : Nat → Nat → Bool} {E L E' L' : Nat → Bool} (h : AcTop n f k E L) (hk : k < n) (m : AcMid n f E L E' L') (hd : L' k = true) : AcTop n f (k + 1) E' L' :=
  ⟨m.toAcOk, fun x hx h1 => by
    cases e : L' x
    · obtain ⟨h2, h3⟩ := m.gray x hx h1 e
      rw [h.white x hx h2] at h3; cases h3
    · rfl, fun x hx => by
    by_cases e : x = k
    · subst e; exact hd
    · exact m.keepL x (by omega) (h.done x (by omega))⟩
theorem acTopEnd {n : Nat} {f : Nat → Nat → Bool} {E L : Nat → Bool} (h : AcTop n f n E L) : acyB n f = true := acyIff.2 fun a ha => h.free a ha (h.done a ha)

theorem four (w : World) (a b c d : Obj) (s : Nat) (h : w.heap.size = s) : ((((w.alloc a).alloc b).alloc c).alloc d).drew.heap[s]? = some a ∧ ((((w.alloc a).alloc b).alloc c).alloc d).drew.heap[s + 1]? = some b ∧ ((((w.alloc a).alloc b).alloc c).alloc d).drew.heap[s + 1 + 1]? = some c ∧ ((((w.alloc a).alloc b).alloc c).alloc d).drew.heap[s + 1 + 1 + 1]? = some d ∧ Below w.heap.size w ((((w.alloc a).alloc b).alloc c).alloc d).drew := by
  subst h
  refine ⟨?_, ?_, ?_, ?_, ((((belowAlloc w a).alloc (by simp) b).alloc (by simp; omega) c).alloc (by simp; omega) d).drew⟩
  · show ((((w.alloc a).alloc b).alloc c).alloc d).heap[w.heap.size]? = some a
    rw [(belowAlloc _ _).block _ (by simp; omega), (belowAlloc _ _).block _ (by simp; omega), (belowAlloc _ _).block _ (by simp)]; exact heap_alloc_new w a
  · show ((((w.alloc a).alloc b).alloc c).alloc d).heap[w.heap.size + 1]? = some b
    rw [(belowAlloc _ _).block _ (by simp), (belowAlloc _ _).block _ (by simp)]; simpa using heap_alloc_new (w.alloc a) b
  · show ((((w.alloc a).alloc b).alloc c).alloc d).heap[w.heap.size + 1 + 1]? = some c
    rw [(belowAlloc _ _).block _ (by simp)]; simpa using heap_alloc_new ((w.alloc a).alloc b) c
  · show ((((w.alloc a).alloc b).alloc c).alloc d).heap[w.heap.size + 1 + 1 + 1]? = some d
    simpa using heap_alloc_new (((w.alloc a).alloc b).alloc c) d
/-- The two rows and the two variables as they are made, in whatever order. -/
structure AcMk (w wx : World) (eb lb ge gl N : Nat) : Prop where
  ent : wx.heap[eb]? = some (.cells #[.slice (some ⟨ge, 0, none⟩) N N] 77 (0, 0))
  lef : wx.heap[lb]? = some (.cells #[.slice (some ⟨gl, 0, none⟩) N N] 77 (0, 0))
  re : wx.heap[ge]? = some (.cells (madeCells #[.bool false] N) 4 (0, 0))
  rl : wx.heap[gl]? = some (.cells (madeCells #[.bool false] N) 4 (0, 0))
  ne : ge ≠ gl
  new : w.heap.size ≤ ge ∧ w.heap.size ≤ gl
  below : Below w.heap.size w wx
theorem rowNew {w : World} {g N : Nat} (h : w.heap[g]? = some (.cells (madeCells #[.bool false] N) 4 (0, 0))) (hN : N ≤ maxLen) : RowB w g N (fun _ => false) := by
  have e : (madeCells #[Value.bool false] N).toList = (List.replicate N false).map Value.bool := by rw [List.map_replicate]; exact toList_madeCells_one _ _
  have hs : (madeCells #[Value.bool false] N).size = N := by rw [← Array.length_toList, e]; simp
  refine ⟨by simp [blLen], .inr ⟨g, N, _, rfl, Nat.zero_le _, h, Nat.le_refl _, hN, by omega, ?_⟩⟩
  rw [List.take_of_length_le (by rw [Array.length_toList]; omega), e, blFalse]
theorem AcMk.row {w wx : World} {eb lb ge gl N : Nat} (h : AcMk w wx eb lb ge gl N) (hN : N ≤ maxLen) : RowB wx ge N (fun _ => false) ∧ RowB wx gl N (fun _ => false) ∧ wx.cell? ⟨eb, 0, none⟩ = some (.slice (some ⟨ge, 0, none⟩) N N) ∧ wx.cell? ⟨lb, 0, none⟩ = some (.slice (some ⟨gl, 0, none⟩) N N) :=
  ⟨rowNew h.re hN, rowNew h.rl hN, by unfold World.cell?; rw [h.ent]; rfl, by unfold World.cell?; rw [h.lef]; rfl⟩

set_option maxRecDepth 100000 in
set_option maxHeartbeats 4000000 in
theorem iAcyclic (N : Int) (l : Prs) (n : Nat) (hn : l.length = n) (hs : n ≤ 65536) (A : Option Addr) (c : Nat) (w : World) (ha : Rp w A c l) :
    Calls Tryd.prog 31 #[relV N A n c] w fun e w' => e = .returned (.bool (acyR N l)) ∧ Below w.heap.size w w' := by
  obtain ⟨W, hW⟩ : ∃ W, w.alloc (.cells #[.int .i64 N, .slice A n c] 24) = W := ⟨_, rfl⟩
  have HB0 : Hid (BoxR W w.heap.size N (.slice A n c)) := by rw [← hW]; exact Lib.hid (BoxR.new w N _)
  have hbW : Below w.heap.size w W := by rw [← hW]; exact belowAlloc w _
  have HA := Lib.hid (ha.below hbW); clear ha
  have HN := Lib.hid hn; clear hn
  obtain ⟨c0, c1, _, _⟩ := HB0.out.facts
  rcases hv : okR N l with _ | _
  · have HV := Lib.hid hv
    have e1 : acyR N l = false := by unfold acyR; rw [hv]; rfl
    rw [e1]
    clear hv e1
    go_enter Tryd.func31, Tryd.ntmps31
    go_wp2_with fail
    refine (iValid N l n HN.out false HV.out A c _ HA.out).mono ?_
    rintro e w1 ⟨rfl, b1⟩
    go_wp2
    go_ret
    exact ⟨rfl, hbW.trans (b1.mono hbW.size)⟩
  · obtain ⟨K, rfl, hK⟩ := okNat hv
    obtain ⟨f, hf⟩ : ∃ f, hasP l = f := ⟨_, rfl⟩
    have e1 : acyR K l = acyB K f := by unfold acyR; rw [hv, hf]; simp
    rw [e1]
    have HF := Lib.hid hf
    have HV := Lib.hid hv
    clear hv e1 hf
    obtain ⟨i0, hi, hz0, hz1, hz2⟩ := info_parts infoBool
    have HBY := Lib.hid (show i0.bytes * K ≤ 281474976710656 by rw [hz2]; omega)
    have HNM := Lib.hid (show K ≤ maxLen by unfold maxLen; omega)
    go_enter Tryd.func31, Tryd.ntmps31
    go_wp2_with fail
    refine (iValid K l n HN.out true HV.out A c _ HA.out).mono ?_
    rintro e w1 ⟨rfl, b1⟩
    have HB0 := Lib.hid (HB0.out.below b1)
    have HA := Lib.hid (HA.out.below b1)
    have hbw := hbW.trans (b1.mono hbW.size)
    obtain ⟨c0, c1, _, _⟩ := HB0.out.facts
    go_wp2_with fail
    refine (iSucc K hK l n HN.out HV.out hs A c _ HA.out).mono ?_
    rintro e w3 ⟨A3, c3', rfl, hrd, b3⟩
    rw [HF.out] at hrd
    obtain ⟨W4, hW4⟩ : ∃ W4, w3.alloc (.cells #[.slice A3 K c3'] 37) = W4 := ⟨_, rfl⟩
    have b4 : Below w1.heap.size w1 W4 := by rw [← hW4]; exact b3.alloc b3.size _
    have hnb : W4.cell? ⟨w3.heap.size, 0, none⟩ = some (.slice A3 K c3') := by rw [← hW4]; simp
    have HRD := Lib.hid (show RdF W4 A3 c3' (sucI K f) K by rw [← hW4]; exact hrd.below (belowAlloc _ _))
    have HB0 := Lib.hid (HB0.out.below b4)
    have hbw4 := hbw.trans (b4.mono hbw.size)
    have hz4 : W4.heap.size = w3.heap.size + 1 := by rw [← hW4]; simp
    clear hrd b3
    obtain ⟨c0, c1, _, _⟩ := HB0.out.facts
    have hmk := run_make_row' (P := Tryd.prog) 77 4 (.bool false) 1 Tryd.underlying77 infoBool rfl .i64 .i64 K (by omega) (by omega)
    have hzz : w.heap.size < W4.heap.size := HB0.out.lt
    have q1 : ∀ o, (W4.alloc o).cell? ⟨w.heap.size, 0, none⟩ = some (.int .i64 K) := fun o => (World.cell?_alloc_past _ _ _ hzz).trans c0
    have q2 : ∀ o o', ((W4.alloc o).alloc o').cell? ⟨w.heap.size, 0, none⟩ = some (.int .i64 K) := fun o o' => (World.cell?_alloc_past _ _ _ (by simp; omega)).trans (q1 o)
    have q3 : ∀ o o' o'', (((W4.alloc o).alloc o').alloc o'').cell? ⟨w.heap.size, 0, none⟩ = some (.int .i64 K) := fun o o' o'' => (World.cell?_alloc_past _ _ _ (by simp; omega)).trans (q2 o o')
    go_upto_region 4 with fail
    go_cut [4, 5, 15, 18] from 13 to 18 (fun s4 s5 s15 s18 wx => ∃ eb lb ge gl, s4 = .pointer (some ⟨eb, 0, none⟩) ∧ s5 = .pointer (some ⟨lb, 0, none⟩) ∧ s15 = .slice (some ⟨ge, 0, none⟩) K K ∧ s18 = .slice (some ⟨gl, 0, none⟩) K K ∧ AcMk W4 wx eb lb ge gl K)
    case first =>
      go_region
      all_goals (
        go_wp2_with fail
        go_meet
        refine ⟨_, _, _, _, rfl, rfl, rfl, rfl, AcMk.mk ?_ ?_ ?_ ?_ ?_ ?_ (four _ _ _ _ _ _ hz4).2.2.2.2⟩
        (first | exact (four _ _ _ _ _ _ hz4).1 | exact (four _ _ _ _ _ _ hz4).2.1 | exact (four _ _ _ _ _ _ hz4).2.2.1 | exact (four _ _ _ _ _ _ hz4).2.2.2.1)
        (first | exact (four _ _ _ _ _ _ hz4).1 | exact (four _ _ _ _ _ _ hz4).2.1 | exact (four _ _ _ _ _ _ hz4).2.2.1 | exact (four _ _ _ _ _ _ hz4).2.2.2.1)
        (first | exact (four _ _ _ _ _ _ hz4).1 | exact (four _ _ _ _ _ _ hz4).2.1 | exact (four _ _ _ _ _ _ hz4).2.2.1 | exact (four _ _ _ _ _ _ hz4).2.2.2.1)
        (first | exact (four _ _ _ _ _ _ hz4).1 | exact (four _ _ _ _ _ _ hz4).2.1 | exact (four _ _ _ _ _ _ hz4).2.2.1 | exact (four _ _ _ _ _ _ hz4).2.2.2.1)
        omega
        exact ⟨by omega, by omega⟩)
    case rest =>
      obtain ⟨eb, lb, ge, gl, rfl, rfl, rfl, rfl, hmk5⟩ := hcut
      clear hmk q1 q2 q3
      have HMK := Lib.hid hmk5; clear hmk5
      obtain ⟨hre, hrl, k1, k2⟩ := HMK.out.row HNM.out
      have hcc : Chg W4 wc (fun _ => True) := Chg.ofBelow HMK.out.below _
      have hnb5 : wc.cell? ⟨w3.heap.size, 0, none⟩ = some (.slice A3 K c3') := (HMK.out.below.cell (by show w3.heap.size < W4.heap.size; omega)).trans hnb
      have HB5 := Lib.hid (HB0.out.below HMK.out.below)
      obtain ⟨X, hX⟩ : ∃ X, wc.alloc (.cells #[acV eb lb w3.heap.size wc.heap.size] 64) = X := ⟨_, rfl⟩
      have bX : Below wc.heap.size wc X := by rw [← hX]; exact belowAlloc _ _
      have k3 : X.cell? ⟨wc.heap.size, 0, none⟩ = some (acV eb lb w3.heap.size wc.heap.size) := by rw [← hX]; simp
      have HRE := Lib.hid (hre.chg (Chg.ofBelow bX fun _ => True) trivial)
      have HRL := Lib.hid (hrl.chg (Chg.ofBelow bX fun _ => True) trivial)
      have HEV : Hid (EnvA X eb lb w3.heap.size wc.heap.size ge gl A3 c3' K f) := Lib.hid ⟨(bX.cell (World.block_lt_of_cell? _ _ k1)).trans k1, (bX.cell (World.block_lt_of_cell? _ _ k2)).trans k2, (bX.cell (World.block_lt_of_cell? _ _ hnb5)).trans hnb5, k3, (HRD.out.below HMK.out.below).below bX⟩
      have HB6 := Lib.hid (HB5.out.below bX)
      have hbX : Below w.heap.size w X := (hbw4.trans (HMK.out.below.mono hbw4.size)).trans (bX.mono (Nat.le_trans hbw4.size HMK.out.below.size))
      obtain ⟨c0, c1, _, _⟩ := HB6.out.facts
      unfold acV at hX
      clear k1 k2 k3 hnb5 hre hrl hcc bX
      have hlm := HMK.out.below.size
      have hzX : wc.heap.size < X.heap.size := by rw [← hX]; simp
      obtain ⟨hnew1, hnew2⟩ := HMK.out.new
      have HNE := Lib.hid HMK.out.ne
      go_wp2_with fail
      go_loopw [22] (fun i wr => ∃ (k : Nat) (E L : Nat → Bool), k ≤ K ∧ i = .int .i64 k ∧ Hid (RowB wr ge K E) ∧ Hid (RowB wr gl K L) ∧ Hid (AcTop K f k E L) ∧ Hid (Chg X wr (fun g => g ≠ ge ∧ g ≠ gl))) (fun i _ => K - (intOf i).toNat)
      case atStart => exact ⟨0, _, _, Nat.zero_le _, rfl, HRE, HRL, Lib.hid (acTop0 K f), Lib.hid (Chg.refl _ _)⟩
      case round =>
        obtain ⟨k, E, L, hk, rfl, HE, HL, HT, HC⟩ := hrel
        by_cases hlt : k < K
        · have HV := Lib.hid (HEV.out.kept HRE.out HRL.out HC.out)
          have k3 := HV.out.self
          unfold acV at k3
          have HMT := Lib.hid (iMeets K hK f eb lb w3.heap.size wc.heap.size ge gl A3 c3' HNE.out _ k E L wr hlt rfl HV HE HL (Lib.hid (acTopIn HT.out)))
          go_wp2_with fail
          refine HMT.out.mono ?_
          rintro e w6 ⟨b, E', L', rfl, r1, r2, c6, hb⟩
          have hb6 : Below w.heap.size w w6 := by
            have hc := HC.out.trans c6 fun _ _ h => h
            exact hbX.trans ⟨hc.os, hc.tape, hc.output, hc.size, fun g hg => hc.block g (by omega) ⟨by have := hbw4.size; omega, by have := hbw4.size; omega⟩⟩
          cases b with
          | true =>
            rw [if_pos rfl] at hb
            have HNO := Lib.hid (acyNo hb)
            clear hb r1 r2 c6
            go_wp2
            go_ret
            exact ⟨retB HNO.out.symm, hb6⟩
          | false =>
            rw [if_neg (by decide)] at hb
            have HN6 := Lib.hid (acTopNext HT.out hlt hb.1 hb.2)
            have HE6 := Lib.hid r1
            have HL6 := Lib.hid r2
            have HC6 := Lib.hid (HC.out.trans c6 fun _ _ h => h)
            clear hb r1 r2 c6
            go_wp2
            go_roundw
            case rel => exact ⟨k + 1, E', L', by omega, by go_num, HE6, HL6, HN6, HC6⟩
            case measure => simp [intOf]; omega
        · obtain rfl : k = K := by omega
          have HYES := Lib.hid (acTopEnd HT.out)
          have hb6 : Below w.heap.size w wr := by
            have hc := HC.out
            exact hbX.trans ⟨hc.os, hc.tape, hc.output, hc.size, fun g hg => hc.block g (by omega) ⟨by have := hbw4.size; omega, by have := hbw4.size; omega⟩⟩
          go_wp2
          go_ret
          exact ⟨retB HYES.out.symm, hb6⟩
end Go.Proofs.YtjioiaeiggjneaaDoor
