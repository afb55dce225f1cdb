/-
  The contract of First.
-/
import Derived.Test.YtjioiaeiggjneaaDoorKLinA
import Derived.Test.YtjioiaeiggjneaaDoorKLinX
import Derived.Test.YtjioiaeiggjneaaDoorKOwnI
import Derived.Deep.QuietTactic
namespace Go.Proofs.YtjioiaeiggjneaaDoor
open Go.RowKit

theorem litI (w : World) (x : Int) : Rd (w.alloc (.cells #[.int .i64 x] 3)) (some ⟨w.heap.size, 0, none⟩) 1 [x] := Rd.lit w [x] 3 (by simp)
theorem makeI (N : Nat) (hN : N ≤ 64) (w : World) : (Instr.makeSlice 25 (.int .i64 0) (.int .i64 N)).run Tryd.prog w = .ok (.slice (some ⟨w.heap.size, 0, none⟩) 0 N) (w.alloc (.cells (madeCells #[.int .i64 0] N) 3)) := by
  obtain ⟨i, hi, hzz⟩ := Option.map_eq_some_iff.1 infoInt
  simp only [Prod.mk.injEq] at hzz
  obtain ⟨hz, hs, hb⟩ := hzz
  have h := run_make (P := Tryd.prog) w 25 3 i (.int .i64 0) Tryd.underlying25 hi hz .i64 .i64 0 N (by omega) (by omega) (by rw [hb]; omega) (by omega)
  rw [hs] at h
  simpa [Value.cells] using h
theorem maskBound {s : Nat} (h : ∀ i, s.testBit i = true → i < 64) : s < B64 := by
  rw [b64Pow]
  refine Nat.lt_pow_two_of_testBit _ fun i hi => ?_
  cases e : s.testBit i
  · rfl
  · have := h i e; omega
/-- After k numbers of the first extension. -/
structure FstTo (N : Nat) (f : Nat → Nat → Bool) (k s : Nat) (pre : List Nat) : Prop where
  eq : fstL N f N 0 = pre ++ fstL N f (N - k) s
  len : pre.length = k
  bit : ∀ i, s.testBit i = true → i < N
  out : outS N s = N - k
theorem FstTo.lt {N : Nat} {f : Nat → Nat → Bool} {k s : Nat} {pre : List Nat} (h : FstTo N f k s pre) (hN : N ≤ 64) : s < B64 := maskBound fun i hi => by have := h.bit i hi; omega
theorem fstStart {N : Nat} {f : Nat → Nat → Bool} : FstTo N f 0 0 [] := ⟨rfl, rfl, fun i h => by simp at h, outZero⟩
theorem fstNext {N : Nat} {f : Nat → Nat → Bool} (hac : acyT N (tcT N f)) {k s : Nat} {pre : List Nat} (h : FstTo N f k s pre) (hk : k < N) (hN : N ≤ 64) :
    ∃ a, nxtS N f s ≠ 0 ∧ lowS (nxtS N f s) = a ∧ a < N ∧ FstTo N f (k + 1) (addS s a) (pre ++ [a]) := by
  rcases e : nxtL N f s with _ | ⟨a, L⟩
  · exact absurd e (nxtSome hac (by rw [h.out]; omega))
  · have ha : a ∈ nxtL N f s := by rw [e]; simp
    obtain ⟨h1, h2⟩ := nxtMem.1 ha
    have h3 := outAdd h1 (canIff.1 h2).1
    have hne : nxtS N f s ≠ 0 := fun h0 => by
      have h4 : (nxtS N f s).testBit a = true := by rw [nxtSBit]; exact decide_eq_true ha
      rw [h0] at h4; simp at h4
    have hc := bitsCons (nxtSLt hN f s) hne
    rw [nxtSBits hN, e] at hc
    injection hc with hc1 hc2
    refine ⟨a, hne, hc1.symm, h1, ?_, by rw [List.length_append, h.len]; rfl, fun i hi => ?_, by have := h.out; omega⟩
    · rw [h.eq, List.append_assoc]
      congr 1
      rw [show N - k = N - (k + 1) + 1 by omega, fstL, e]
      rfl
    · rw [addSBit, Bool.or_eq_true, decide_eq_true_iff] at hi
      rcases hi with hi | rfl
      · exact h.bit i hi
      · exact h1
theorem acyQ {N : Nat} {l : Prs} (h : acyR N l = true) : acyT N (tcT N (hasP l)) := by
  unfold acyR at h
  rw [Bool.and_eq_true] at h
  exact acyIff.1 h.2
set_option maxRecDepth 100000 in
theorem iFirstNo (N : Int) (l : Prs) (n : Nat) (hn : l.length = n) (hs : n ≤ 65536) (hc : acyR N l = false) (A : Option Addr) (c : Nat) (w : World) (ha : Rp w A c l) :
    Calls Tryd.prog 11 #[relV N A n c] w fun e w' => e = .returned (.tuple #[.slice none 0 0, .int .i64 (errA N l)]) ∧ Below w.heap.size w w' := by
  obtain ⟨W, hW⟩ : ∃ W, w.alloc (.cells #[.int .i64 N, .slice A n c] 24) = W := ⟨_, rfl⟩
  have hbW : Below w.heap.size w W := by rw [← hW]; exact belowAlloc w _
  have HB0 : Hid (BoxR W w.heap.size N (.slice A n c)) := by rw [← hW]; exact Lib.hid (BoxR.new w N _)
  obtain ⟨z0, z1, _, _⟩ := HB0.out.facts
  have HC := Lib.hid (iAcyc N l n hn hs A c W (ha.below hbW))
  obtain ⟨k, hk⟩ : ∃ k, errA N l = k := ⟨_, rfl⟩
  have hk0 : (k == 0) = false := by
    rw [← hk]
    unfold errA
    split
    · rw [hc]; rfl
    · rfl
  rw [hk]
  have HK := Lib.hid hk
  have HN := Lib.hid hc
  clear ha hn hs hc hk
  go_enter Tryd.func11, Tryd.ntmps11
  go_wp2_with fail
  refine HC.out.mono ?_
  rintro e w1 ⟨⟨_, h2⟩, hb1⟩
  obtain rfl := h2 HN.out
  rw [HK.out]
  go_wp2
  go_ret2
  exact ⟨rfl, belowThen hbW hb1⟩
set_option maxRecDepth 100000 in
set_option maxHeartbeats 2000000 in
theorem iFirstOk (N : Nat) (hN : N ≤ 64) (l : Prs) (n : Nat) (hn : l.length = n) (hs : n ≤ 65536) (hc : acyR N l = true) (A : Option Addr) (c : Nat) (w : World) (ha : Rp w A c l) (hT : Tbl w) :
    Calls Tryd.prog 11 #[relV N A n c] w fun e w' => ∃ v, e = .returned (.tuple #[v, .int .i64 0]) ∧ OwnI w' w.heap.size v ((fstL N (hasP l) N 0).map Int.ofNat) ∧ Below w.heap.size w w' := by
  obtain ⟨W, hW⟩ : ∃ W, w.alloc (.cells #[.int .i64 N, .slice A n c] 24) = W := ⟨_, rfl⟩
  have HB0 : Hid (BoxR W w.heap.size N (.slice A n c)) := by rw [← hW]; exact Lib.hid (BoxR.new w N _)
  have hbW : Below w.heap.size w W := by rw [← hW]; exact belowAlloc w _
  have HC := Lib.hid (iAcyc N l n hn hs A c W (ha.below hbW))
  have HTW := Lib.hid (hT.below hbW)
  have HN := Lib.hid hc
  have HQ0 := Lib.hid (acyQ hc)
  clear ha hn hs hc hT
  obtain ⟨z0, z1, _, _⟩ := HB0.out.facts
  obtain ⟨f, hf⟩ : ∃ f, hasP l = f := ⟨_, rfl⟩
  have HQ := Lib.hid (show acyT N (tcT N f) from hf ▸ HQ0.out); clear HQ0
  go_enter Tryd.func11, Tryd.ntmps11
  go_wp2_with fail
  refine HC.out.mono ?_
  rintro e w1 ⟨⟨h1, _⟩, hb1⟩
  obtain ⟨g, rfl, hB⟩ := h1 HN.out
  have HB1 : Hid (BoxR w1 w.heap.size N (.slice A n c)) := Lib.hid (HB0.out.below hb1)
  obtain ⟨c0, c1, _, _⟩ := HB1.out.facts
  have HB := Lib.hid hB; clear hB
  have HT1 := Lib.hid (HTW.out.below hb1)
  have HX1 := Lib.hid (belowThen hbW hb1)
  have hmk := makeI N hN
  obtain ⟨V, hV⟩ : ∃ V, w1.alloc (.cells (madeCells #[.int .i64 0] N) 3) = V := ⟨_, rfl⟩
  have HBV : Hid (BoxR V w.heap.size N (.slice A n c)) := by rw [← hV]; exact Lib.hid (HB1.out.alloc _)
  obtain ⟨d0, d1, _, _⟩ := HBV.out.facts
  have hzw : w.heap.size ≤ w1.heap.size := HX1.out.size
  have hbV : Below w.heap.size w V := by rw [← hV]; exact HX1.out.alloc hzw _
  have b1V : Below w1.heap.size w1 V := by rw [← hV]; exact belowAlloc w1 _
  have HOV : Hid (OwnI V w1.heap.size (.slice (some ⟨w1.heap.size, 0, none⟩) 0 N) []) := by rw [← hV]; exact Lib.hid (World.ownsRow_made w1 (base := w1.heap.size) (size := 1) _ N (Nat.le_refl _) (by unfold maxLen; omega) (by rw [← Array.length_toList, toList_madeCells_one]; simp))
  have HBW := Lib.hid (show Bef w1 (some ⟨g, 0, none⟩) N N f from hf ▸ HB.out)
  go_wp2
  clear hmk hV hW z0 z1 c0 c1
  go_loopw [6, 7, 22] (fun vs vf vk wr => ∃ (k s : Nat) (pre : List Nat), k ≤ N ∧ vs = .int .u64 s ∧ vk = .int .i64 k ∧ Hid (FstTo N f k s pre) ∧ Hid (OwnI wr w1.heap.size vf (pre.map Int.ofNat)) ∧ Hid (Below w1.heap.size w1 wr)) (fun _ _ v _ => N - (intOf v).toNat)
  case atStart => exact ⟨0, 0, [], Nat.zero_le _, rfl, rfl, Lib.hid fstStart, HOV, Lib.hid b1V⟩
  case round =>
    clear d0 d1
    obtain ⟨k, s, pre, hk, rfl, rfl, HF, HO, HBR⟩ := hrel
    by_cases hlt : k < N
    · obtain ⟨a, h0, h2, haN, hnx⟩ := fstNext HQ.out HF.out hlt hN
      have hs64 := HF.out.lt hN
      have HNX := Lib.hid (iNext N hN f (some ⟨g, 0, none⟩) N s wr (HBW.out.below HBR.out) (HT1.out.below HBR.out))
      have ha64 : a < 64 := by omega
      have HW := Lib.hid (fun w' => iWith s a hs64 ha64 w')
      have hlen : (pre.map Int.ofNat).length ≤ 64 := by rw [List.length_map, HF.out.len]; omega
      have hz1 := HBR.out.size
      have HFN := Lib.hid hnx; clear hnx
      have HLO := Lib.hid (fun w' hT => h2 ▸ iLow (nxtS N f s) (nxtSLt hN f s) h0 w' hT)
      have HT2 := Lib.hid (HT1.out.below HBR.out)
      clear h0 h2
      go_wp2_with fail
      refine HNX.out.mono ?_
      rintro e w2 ⟨rfl, hb2⟩
      have HO2 : Hid (OwnI w2 w1.heap.size u7 (pre.map Int.ofNat)) := Lib.hid (ownChg HO.out (Chg.ofBelow hb2 fun _ => True) fun _ _ => trivial)
      have HB2 := Lib.hid (belowThen HBR.out hb2)
      have hz2 := hb2.size
      go_wp2_with fail
      refine (HLO.out w2 (HT2.out.below hb2)).mono ?_
      rintro e w3 ⟨rfl, rfl⟩
      go_wp2_with (at_builtin; go_loud (refine appI _ rfl (.tmp 28) (.tmp 30) rfl w1.heap.size _ _ rfl (HO2.out.alloc _) (some ⟨_, 0, none⟩) 1 1 [(a : Int)] rfl rfl (litI _ _) (by rw [List.length_singleton]; omega) (by simp; omega) ?_; intro v1 w4 o1 _ b4; have HO4 : Hid (OwnI w4 w1.heap.size v1 ((pre ++ [a]).map Int.ofNat)) := (by rw [List.map_append]; exact Lib.hid o1); have HB4 := Lib.hid (stepA HB2.out b4); clear o1 b4))
      refine (HW.out _).mono ?_
      rintro e w5 ⟨rfl, rfl⟩
      go_wp2
      exact ⟨⟨k + 1, _, _, by omega, rfl, by go_num, HFN, HO4, HB4⟩, by simp [intOf]; omega⟩
    · obtain rfl : k = N := by omega
      have e : pre = fstL k f k 0 := by have := HF.out.eq; rw [Nat.sub_self, fstL, List.append_nil] at this; exact this.symm
      have HR : Hid (OwnI wr w.heap.size u7 ((fstL k (hasP l) k 0).map Int.ofNat)) := by rw [hf, ← e]; exact Lib.hid (ownMono HO.out hzw)
      have HX := Lib.hid (belowThen HX1.out HBR.out)
      go_wp2
      go_ret2
      exact ⟨_, rfl, HR.out, HX.out⟩
end Go.Proofs.YtjioiaeiggjneaaDoor
