/-
  The contract of the specification's Check: the first error of an instruction.
-/
import Derived.Test.YtkanamdfjegcbaaDoorCInsG1
import Derived.Test.YtkanamdfjegcbaaDoorCInsG2
import Derived.Test.YtkanamdfjegcbaaDoorCIU
import Derived.Test.YtkanamdfjegcbaaDoorCR
namespace Go.Proofs.YtkanamdfjegcbaaDoor
open Go.RowKit

theorem uvecAll : ∀ k, k < 23 → 1 ≤ k → uvec k ∈ [[true, false, false, false, true, false, false], [true, true, false, false, false, false, false], [true, true, true, false, false, true, false], [false, false, false, false, true, false, false], [false, true, false, false, true, false, false], [false, true, false, false, false, false, false], [false, false, false, false, false, false, false], [true, false, false, true, false, false, true], [false, true, false, true, false, false, true], [true, true, false, true, false, false, true], [true, true, true, true, false, false, true], [true, true, false, true, false, true, true], [false, false, false, true, false, false, false], [true, false, false, true, false, false, false], [false, false, false, true, true, false, false], [true, true, false, true, false, false, false]] := by decide
theorem rCheckIn (k : Nat) (h1 : 1 ≤ k) (h2 : k ≤ 22) (a b c obj n fn ord : Int) (w : World) :
    Calls Tryd.prog 52 #[(I8.mk8 k a b c obj n fn ord).val] w fun e w' => e = .returned (.int .i64 (I8.mk8 k a b c obj n fn ord).chk) ∧ Below w.heap.size w w' := by
  have h := uvecAll k (by omega) h1
  simp only [List.mem_cons, List.not_mem_nil, or_false] at h
  rcases h with h | h | h | h | h | h | h | h | h | h | h | h | h | h | h | h
  · exact rCheckV0 k h1 h2 a b c obj n fn ord w h
  · exact rCheckV1 k h1 h2 a b c obj n fn ord w h
  · exact rCheckV2 k h1 h2 a b c obj n fn ord w h
  · exact rCheckV3 k h1 h2 a b c obj n fn ord w h
  · exact rCheckV4 k h1 h2 a b c obj n fn ord w h
  · exact rCheckV5 k h1 h2 a b c obj n fn ord w h
  · exact rCheckV6 k h1 h2 a b c obj n fn ord w h
  · exact rCheckV7 k h1 h2 a b c obj n fn ord w h
  · exact rCheckV8 k h1 h2 a b c obj n fn ord w h
  · exact rCheckV9 k h1 h2 a b c obj n fn ord w h
  · exact rCheckV10 k h1 h2 a b c obj n fn ord w h
  · exact rCheckV11 k h1 h2 a b c obj n fn ord w h
  · exact rCheckV12 k h1 h2 a b c obj n fn ord w h
  · exact rCheckV13 k h1 h2 a b c obj n fn ord w h
  · exact rCheckV14 k h1 h2 a b c obj n fn ord w h
  · exact rCheckV15 k h1 h2 a b c obj n fn ord w h
theorem rCheckNo (i : I8) (h : opOk i.op = false) (w : World) :
    Calls Tryd.prog 52 #[i.val] w fun e w' => e = .returned (.int .i64 8) ∧ Below w.heap.size w w' := by
  obtain ⟨op, a, b, c, obj, n, fn, ord⟩ := i
  have h : opOk op = false := h
  simp only [opOk, decide_eq_false_iff_not] at h
  have hb := belowAlloc w (.cells #[.int .i64 op, .int .i64 a, .int .i64 b, .int .i64 c, .int .i64 obj, .int .i64 n, .int .i64 fn, .int .i64 ord] 44)
  simp only [I8.val]
  by_cases h1 : op < 1
  · go_enter Tryd.func52, Tryd.ntmps52
    go_wp2
    go_ret
    exact ⟨rfl, hb⟩
  · have h3 : 1 ≤ op := by omega
    have h2 : 22 < op := by omega
    clear h h1
    go_enter Tryd.func52, Tryd.ntmps52
    go_wp2
    go_ret
    exact ⟨rfl, hb⟩
/-- The specification's Check: the first error of an instruction. -/
theorem rCheck (i : I8) (r : Int) (hr : i.chk = r) (w : World) :
    Calls Tryd.prog 52 #[i.val] w fun e w' => e = .returned (.int .i64 r) ∧ Below w.heap.size w w' := by
  subst hr
  cases h : opOk i.op with
  | false =>
    have e : i.chk = 8 := by unfold I8.chk; rw [if_pos h]
    rw [e]
    exact rCheckNo i h w
  | true =>
    have h' := h
    simp only [opOk, decide_eq_true_eq] at h'
    obtain ⟨op, a, b, c, obj, n, fn, ord⟩ := i
    obtain ⟨k, rfl⟩ : ∃ k : Nat, op = k := ⟨op.toNat, by have := h'.1; simp only at this; omega⟩
    simp only at h'
    exact rCheckIn k (by omega) (by omega) a b c obj n fn ord w
end Go.Proofs.YtkanamdfjegcbaaDoor

namespace Go.Proofs.YtkanamdfjegcbaaDoor
open Go Go.RowKit

theorem rCheckA (op a b c obj n fn ord r : Int) (hr : (I8.mk8 op a b c obj n fn ord).chk = r) (w : World) :
    Calls Tryd.prog 52 #[.agg #[.int .i64 op, .int .i64 a, .int .i64 b, .int .i64 c, .int .i64 obj, .int .i64 n, .int .i64 fn, .int .i64 ord]] w fun e w' => e = .returned (.int .i64 r) ∧ Below w.heap.size w w' := rCheck _ r hr w
theorem dfNo {i : I8} (h : i.chk ≠ 0) : i.dfR = 0 ∧ i.dfB = false := by unfold I8.dfR I8.dfB; simp [h]
theorem dfYes {i : I8} (h : i.chk = 0) {q : Bool} (hq : i.u 0 = q) : i.dfR = (if q then i.a else 0) ∧ i.dfB = q := by unfold I8.dfR I8.dfB; cases q <;> simp [h, hq]

theorem iDefs (i : I8) (r : Int) (p : Bool) (hr : i.dfR = r) (hp : i.dfB = p) (hi : i.Wf) (w : World) (hT : InsT w) (hN : Nm w) :
    Calls Tryd.prog 45 #[i.val] w fun e w' => e = .returned (.tuple #[.int .i64 r, .bool p]) ∧ Below w.heap.size w w' := by
  obtain ⟨op, a, b, c, obj, n, fn, ord⟩ := i
  obtain ⟨W, hW, hbW, -, hbox⟩ := boxNew w op a b c obj n fn ord
  obtain ⟨c0, c1, c2, c3, c4, c5, c6, c7⟩ := boxFactsW hbox
  have HT := Lib.hid (hT.below hbW)
  have HM := Lib.hid hbox
  have hv : (I8.mk8 op a b c obj n fn ord).val = .agg #[.int .i64 op, .int .i64 a, .int .i64 b, .int .i64 c, .int .i64 obj, .int .i64 n, .int .i64 fn, .int .i64 ord] := rfl
  rw [hv]
  by_cases h : (I8.mk8 op a b c obj n fn ord).chk = 0
  · have hg := (I8.good h).op
    obtain ⟨k, rfl⟩ : ∃ k : Nat, op = k := ⟨op.toNat, by have := hg.1; simp only at this; omega⟩
    simp only at hg
    have hCK := Lib.hid (iCheckA k a b c obj n fn ord 0 h hi W (hT.below hbW) (hN.below hbW))
    obtain ⟨q, hq⟩ : ∃ q, us k 0 = q := ⟨_, rfl⟩
    obtain ⟨e1, e2⟩ := dfYes h (q := q) (by simpa [I8.u] using hq)
    have HE := Lib.hid (And.intro (hr.symm.trans e1) (hp.symm.trans e2))
    have HQ := Lib.hid hq
    have hk0 : (0 : Int) ≤ k := by omega
    have hk23 : (k : Int) < 23 := by omega
    have hkn : (k : Int).toNat = k := by omega
    clear hi hT hN hbox hv h hr hp hq e1 e2
    go_enter Tryd.func45, Tryd.ntmps45
    go_wp2_with fail
    refine hCK.out.mono ?_
    rintro e' w2 ⟨rfl, b2⟩
    have hb2 := hbW.trans (b2.mono hbW.size)
    have HM := Lib.hid (HM.out.below' b2)
    have HT := Lib.hid (HT.out.below b2)
    obtain ⟨c0, c1, c2, c3, c4, c5, c6, c7⟩ := boxFactsW HM.out
    have d0 := HT.out.us k 0 (by omega) (by omega)
    rw [HQ.out, Nat.add_zero] at d0
    cases q
    · go_wp2
      go_ret2
      rw [HE.out.1, HE.out.2]
      exact ⟨rfl, hb2⟩
    · go_wp2
      go_ret2
      rw [HE.out.1, HE.out.2]
      exact ⟨rfl, hb2⟩
  · obtain ⟨e, he⟩ : ∃ e, (I8.mk8 op a b c obj n fn ord).chk = e := ⟨_, rfl⟩
    have hCK := Lib.hid (iCheckA op a b c obj n fn ord e he hi W (hT.below hbW) (hN.below hbW))
    obtain ⟨e1, e2⟩ := dfNo h
    have HE := Lib.hid (And.intro (hr.symm.trans e1) (hp.symm.trans e2))
    have hx : (e != 0) = true := by rw [← he]; simpa using h
    clear hi hT hN hbox hv h hr hp he e1 e2
    go_enter Tryd.func45, Tryd.ntmps45
    go_wp2_with fail
    refine hCK.out.mono ?_
    rintro e' w2 ⟨rfl, b2⟩
    have hb2 := hbW.trans (b2.mono hbW.size)
    go_wp2
    go_ret2
    rw [HE.out.1, HE.out.2]
    exact ⟨rfl, hb2⟩

theorem rDefs (i : I8) (r : Int) (p : Bool) (hr : i.dfR = r) (hp : i.dfB = p) (w : World) :
    Calls Tryd.prog 47 #[i.val] w fun e w' => e = .returned (.tuple #[.int .i64 r, .bool p]) ∧ Below w.heap.size w w' := by
  obtain ⟨op, a, b, c, obj, n, fn, ord⟩ := i
  obtain ⟨W, hW, hbW, -, hbox⟩ := boxNew w op a b c obj n fn ord
  obtain ⟨c0, c1, c2, c3, c4, c5, c6, c7⟩ := boxFactsW hbox
  have HM := Lib.hid hbox
  have hv : (I8.mk8 op a b c obj n fn ord).val = .agg #[.int .i64 op, .int .i64 a, .int .i64 b, .int .i64 c, .int .i64 obj, .int .i64 n, .int .i64 fn, .int .i64 ord] := rfl
  rw [hv]
  by_cases h : (I8.mk8 op a b c obj n fn ord).chk = 0
  · have hg := (I8.good h).op
    obtain ⟨k, rfl⟩ : ∃ k : Nat, op = k := ⟨op.toNat, by have := hg.1; simp only at this; omega⟩
    simp only at hg
    have hCK := Lib.hid (rCheckA k a b c obj n fn ord 0 h W)
    obtain ⟨q, hq⟩ : ∃ q, us k 0 = q := ⟨_, rfl⟩
    obtain ⟨e1, e2⟩ := dfYes h (q := q) (by simpa [I8.u] using hq)
    have HE := Lib.hid (And.intro (hr.symm.trans e1) (hp.symm.trans e2))
    have HA := Lib.hid (rHasN k 0 (by omega) (by omega) (by omega) 65 rfl q hq)
    clear hbox hv h hr hp hq e1 e2
    go_enter Tryd.func47, Tryd.ntmps47
    go_wp2_with fail
    refine hCK.out.mono ?_
    rintro e' w2 ⟨rfl, b2⟩
    have hb2 := hbW.trans (b2.mono hbW.size)
    have HM := Lib.hid (HM.out.below' b2)
    obtain ⟨c0, c1, c2, c3, c4, c5, c6, c7⟩ := boxFactsW HM.out
    go_wp2_with fail
    refine (HA.out _).mono ?_
    rintro e' w3 ⟨rfl, b3⟩
    have hb3 := belowThen hb2 b3
    have HM := Lib.hid (HM.out.below' b3)
    obtain ⟨c0, c1, c2, c3, c4, c5, c6, c7⟩ := boxFactsW HM.out
    cases q
    · go_wp2
      go_ret2
      rw [HE.out.1, HE.out.2]
      exact ⟨rfl, hb3⟩
    · go_wp2
      go_ret2
      rw [HE.out.1, HE.out.2]
      exact ⟨rfl, hb3⟩
  · obtain ⟨e, he⟩ : ∃ e, (I8.mk8 op a b c obj n fn ord).chk = e := ⟨_, rfl⟩
    have hCK := Lib.hid (rCheckA op a b c obj n fn ord e he W)
    obtain ⟨e1, e2⟩ := dfNo h
    have HE := Lib.hid (And.intro (hr.symm.trans e1) (hp.symm.trans e2))
    have hx : (e != 0) = true := by rw [← he]; simpa using h
    clear hbox hv h hr hp he e1 e2
    go_enter Tryd.func47, Tryd.ntmps47
    go_wp2_with fail
    refine hCK.out.mono ?_
    rintro e' w2 ⟨rfl, b2⟩
    have hb2 := hbW.trans (b2.mono hbW.size)
    go_wp2
    go_ret2
    rw [HE.out.1, HE.out.2]
    exact ⟨rfl, hb2⟩

theorem OwnI.below {W X : World} {base : Nat} {v : Value} {l : List Int} (h : OwnI W base v l) (hX : Below W.heap.size W X) : OwnI X base v l := by
  refine ⟨h.1, ?_⟩
  rcases h.2 with h0 | ⟨g, cap, cur, hv, hb, hg, hr⟩
  · exact .inl h0
  · exact .inr ⟨g, cap, cur, hv, hb, (hX.block g (Array.getElem?_eq_some_iff.1 hg).1).trans hg, hr⟩
theorem Rd.none {W : World} {A : Option Addr} {c : Nat} (hc : c ≤ maxLen) : Rd W A c [] := ⟨Nat.zero_le _, hc, fun h => absurd h (by simp)⟩
set_option maxHeartbeats 1000000 in
theorem rUsesYes (k : Nat) (h1 : 1 ≤ k) (h2 : k ≤ 22) (a b c obj n fn ord : Int) (he : (I8.mk8 k a b c obj n fn ord).chk = 0) (r : List Int) (hr : (I8.mk8 k a b c obj n fn ord).uses = r) (w : World) :
    Calls Tryd.prog 75 #[.agg #[.int .i64 k, .int .i64 a, .int .i64 b, .int .i64 c, .int .i64 obj, .int .i64 n, .int .i64 fn, .int .i64 ord]] w (GivesL r w) := by
  obtain ⟨W0, hW0, hbW0, hzW0, hbox0⟩ := boxNew w k a b c obj n fn ord
  obtain ⟨W, hW⟩ : ∃ W, W0.alloc (.cells #[] 3) = W := ⟨_, rfl⟩
  have hbW1 : Below W0.heap.size W0 W := by rw [← hW]; exact belowAlloc W0 _
  have hbW : Below w.heap.size w W := hbW0.trans (hbW1.mono hbW0.size)
  have hbox := hbox0.below' hbW1
  have hown : OwnI W (w.heap.size + 1) (.slice (some ⟨w.heap.size + 1, 0, none⟩) 0 0) [] := by rw [← hW, ← hzW0]; exact OwnI.made W0 W0.heap.size (Nat.le_refl _)
  obtain ⟨c0, c1, c2, c3, c4, c5, c6, c7⟩ := boxFactsW hbox
  have hCK := Lib.hid (rCheckA k a b c obj n fn ord 0 he W)
  have HM := Lib.hid hbox
  have HO := Lib.hid hown
  have hzL : w.heap.size + 1 ≤ W.heap.size := by rw [← hW, ← hzW0]; simp
  obtain ⟨q1, hq1⟩ : ∃ q, us k 1 = q := ⟨_, rfl⟩
  obtain ⟨q2, hq2⟩ : ∃ q, us k 2 = q := ⟨_, rfl⟩
  have HR := Lib.hid ((usesYes he (q1 := q1) (q2 := q2) (by simpa [I8.u] using hq1) (by simpa [I8.u] using hq2)).symm.trans hr)
  have HA1 := Lib.hid (rHasN k 1 (by omega) (by omega) (by omega) 66 rfl q1 hq1)
  have HA2 := Lib.hid (rHasN k 2 (by omega) (by omega) (by omega) 67 rfl q2 hq2)
  have hzO : w.heap.size + 1 < W.heap.size := by rw [← hW, ← hzW0]; simp
  clear he hbox hbox0 hq1 hq2 hr hown
  go_enter Tryd.func75, Tryd.ntmps75
  go_wp2_with fail
  refine hCK.out.mono ?_
  rintro e' w2 ⟨rfl, b2⟩
  have B2 : Below (w.heap.size + 1) W w2 := b2.mono (by omega)
  have HM := Lib.hid (HM.out.below' b2)
  have HO := Lib.hid (OwnI.below HO.out b2)
  obtain ⟨c0, c1, c2, c3, c4, c5, c6, c7⟩ := boxFactsW HM.out
  go_wp2_with fail
  refine (HA1.out _).mono ?_
  rintro e' w3 ⟨rfl, b3⟩
  have B3 := B2.trans (b3.mono (Nat.le_trans hzL B2.size))
  have HM := Lib.hid (HM.out.below' b3)
  have HO := Lib.hid (OwnI.below HO.out b3)
  obtain ⟨c0, c1, c2, c3, c4, c5, c6, c7⟩ := boxFactsW HM.out
  have HK : Hid (∀ X, Below (w.heap.size + 1) w3 X → Blk X w.heap.size 44 #[.int .i64 k, .int .i64 a, .int .i64 b, .int .i64 c, .int .i64 obj, .int .i64 n, .int .i64 fn, .int .i64 ord]) := Lib.hid fun X h => HM.out.below h (Nat.lt_succ_self _)
  cases q1 <;> cases q2
  · go_wp2_with fail
    refine (HA2.out _).mono ?_
    rintro e' w5 ⟨rfl, b5⟩
    have B5 := B3.trans (b5.mono (Nat.le_trans hzL B3.size))
    go_wp2_with fail
    refine (rMakeN [] _ (by simp) r (by simpa using HR.out) (by simp) _ 0 _ (Rd.none (Nat.zero_le _))).mono ?_
    rintro e' w6 ⟨A2, d2', rfl, r2, b6⟩
    have hfin := hbW.trans ((B5.trans (b6.mono (Nat.le_trans hzL B5.size))).mono (Nat.le_succ _))
    go_wp2
    go_ret
    exact ⟨A2, d2', rfl, r2, hfin⟩
  · go_wp2_with fail
    refine (HA2.out _).mono ?_
    rintro e' w5 ⟨rfl, b5⟩
    have B5 := B3.trans (b5.mono (Nat.le_trans hzL B3.size))
    have HO5 := Lib.hid (OwnI.below HO.out b5)
    obtain ⟨c0, c1, c2, c3, c4, c5, c6, c7⟩ := boxFactsW (HK.out w5 (b5.mono (Nat.le_trans hzL B3.size)))
    go_wp2_with (first | (at_builtin; refine appI _ rfl (.tmp 20) (.tmp 23) rfl (w.heap.size + 1) _ _ rfl (HO5.out.alloc _) (some ⟨w5.heap.size, 0, none⟩) 1 1 [c] rfl rfl (Rd.lit w5 [c] 3 (by simp)) (by simp) (by have := B5.size; simp; omega) ?_; intro v2 x2 o2 _ d2; have D2 := B5.trans ((belowAl3 w5 (Nat.le_trans hzL B5.size) (.cells #[.int .i64 c] 3)).trans d2); have HO2 := Lib.hid o2; clear o2) | fail)
    rw [List.nil_append] at HO2
    obtain ⟨A1, d1', hA1, r1, _⟩ := HO2.out.rd
    subst hA1
    have R1 := Lib.hid r1; clear r1
    refine (rMakeN [c] _ (by simp) r HR.out (by simp) A1 d1' _ R1.out).mono ?_
    rintro e' w6 ⟨A2, d2', rfl, r2, b6⟩
    have hfin := hbW.trans ((D2.trans (b6.mono (Nat.le_trans hzL D2.size))).mono (Nat.le_succ _))
    go_wp2
    go_ret
    exact ⟨A2, d2', rfl, r2, hfin⟩
  · go_wp2_with (first | (at_builtin; refine appI _ rfl (.tmp 12) (.tmp 15) rfl (w.heap.size + 1) _ _ rfl (HO.out.alloc _) (some ⟨w3.heap.size, 0, none⟩) 1 1 [b] rfl rfl (Rd.lit w3 [b] 3 (by simp)) (by simp) (by have := B3.size; simp; omega) ?_; intro v1 x1 o1 _ d1; have D1 := B3.trans ((belowAl3 w3 (Nat.le_trans hzL B3.size) (.cells #[.int .i64 b] 3)).trans d1); obtain ⟨c0, c1, c2, c3, c4, c5, c6, c7⟩ := boxFactsW (HK.out x1 ((belowAl3 w3 (Nat.le_trans hzL B3.size) (.cells #[.int .i64 b] 3)).trans d1)); have HO1 := Lib.hid o1; clear o1) | fail)
    rw [List.nil_append] at HO1
    refine (HA2.out _).mono ?_
    rintro e' w5 ⟨rfl, b5⟩
    have B5 := D1.trans (b5.mono (Nat.le_trans hzL D1.size))
    have HO5 := Lib.hid (OwnI.below HO1.out b5)
    go_wp2_with fail
    obtain ⟨A1, d1', hA1, r1, _⟩ := HO5.out.rd
    subst hA1
    have R1 := Lib.hid r1; clear r1
    refine (rMakeN [b] _ (by simp) r HR.out (by simp) A1 d1' _ R1.out).mono ?_
    rintro e' w6 ⟨A2, d2', rfl, r2, b6⟩
    have hfin := hbW.trans ((B5.trans (b6.mono (Nat.le_trans hzL B5.size))).mono (Nat.le_succ _))
    go_wp2
    go_ret
    exact ⟨A2, d2', rfl, r2, hfin⟩
  · go_wp2_with (first | (at_builtin; refine appI _ rfl (.tmp 12) (.tmp 15) rfl (w.heap.size + 1) _ _ rfl (HO.out.alloc _) (some ⟨w3.heap.size, 0, none⟩) 1 1 [b] rfl rfl (Rd.lit w3 [b] 3 (by simp)) (by simp) (by have := B3.size; simp; omega) ?_; intro v1 x1 o1 _ d1; have D1 := B3.trans ((belowAl3 w3 (Nat.le_trans hzL B3.size) (.cells #[.int .i64 b] 3)).trans d1); obtain ⟨c0, c1, c2, c3, c4, c5, c6, c7⟩ := boxFactsW (HK.out x1 ((belowAl3 w3 (Nat.le_trans hzL B3.size) (.cells #[.int .i64 b] 3)).trans d1)); have HO1 := Lib.hid o1; clear o1) | fail)
    rw [List.nil_append] at HO1
    have D1' := (belowAl3 w3 (Nat.le_trans hzL B3.size) (.cells #[.int .i64 b] 3)).trans d1
    refine (HA2.out _).mono ?_
    rintro e' w5 ⟨rfl, b5⟩
    have B5 := D1.trans (b5.mono (Nat.le_trans hzL D1.size))
    have HO5 := Lib.hid (OwnI.below HO1.out b5)
    obtain ⟨c0, c1, c2, c3, c4, c5, c6, c7⟩ := boxFactsW (HK.out w5 (D1'.trans (b5.mono (Nat.le_trans hzL D1.size))))
    go_wp2_with (first | (at_builtin; refine appI _ rfl (.tmp 20) (.tmp 23) rfl (w.heap.size + 1) _ _ rfl (HO5.out.alloc _) (some ⟨w5.heap.size, 0, none⟩) 1 1 [c] rfl rfl (Rd.lit w5 [c] 3 (by simp)) (by simp) (by have := B5.size; simp; omega) ?_; intro v2 x2 o2 _ d2; have D2 := B5.trans ((belowAl3 w5 (Nat.le_trans hzL B5.size) (.cells #[.int .i64 c] 3)).trans d2); have HO2 := Lib.hid o2; clear o2) | fail)
    rw [List.singleton_append] at HO2
    obtain ⟨A1, d1', hA1, r1, _⟩ := HO2.out.rd
    subst hA1
    have R1 := Lib.hid r1; clear r1
    refine (rMakeN [b, c] _ (by simp) r HR.out (by simp) A1 d1' _ R1.out).mono ?_
    rintro e' w6 ⟨A2, d2', rfl, r2, b6⟩
    have hfin := hbW.trans ((D2.trans (b6.mono (Nat.le_trans hzL D2.size))).mono (Nat.le_succ _))
    go_wp2
    go_ret
    exact ⟨A2, d2', rfl, r2, hfin⟩

theorem rUses (i : I8) (r : List Int) (hr : i.uses = r) (w : World) :
    Calls Tryd.prog 75 #[i.val] w (GivesL r w) := by
  obtain ⟨op, a, b, c, obj, n, fn, ord⟩ := i
  by_cases h : (I8.mk8 op a b c obj n fn ord).chk = 0
  · have hg := (I8.good h).op
    obtain ⟨k, rfl⟩ : ∃ k : Nat, op = k := ⟨op.toNat, by have := hg.1; simp only at this; omega⟩
    simp only at hg
    exact rUsesYes k (by omega) (by omega) a b c obj n fn ord h r hr w
  · rw [usesNo h] at hr
    subst hr
    obtain ⟨W0, hW0, hbW0, hzW0, hbox0⟩ := boxNew w op a b c obj n fn ord
    obtain ⟨W, hW⟩ : ∃ W, W0.alloc (.cells #[] 3) = W := ⟨_, rfl⟩
    have hbW1 : Below W0.heap.size W0 W := by rw [← hW]; exact belowAlloc W0 _
    have hbW : Below w.heap.size w W := hbW0.trans (hbW1.mono hbW0.size)
    obtain ⟨c0, c1, c2, c3, c4, c5, c6, c7⟩ := boxFactsW (hbox0.below' hbW1)
    obtain ⟨e, he⟩ : ∃ e, (I8.mk8 op a b c obj n fn ord).chk = e := ⟨_, rfl⟩
    have hCK := Lib.hid (rCheckA op a b c obj n fn ord e he W)
    have hx : (e != 0) = true := by rw [← he]; simpa using h
    have hv : (I8.mk8 op a b c obj n fn ord).val = .agg #[.int .i64 op, .int .i64 a, .int .i64 b, .int .i64 c, .int .i64 obj, .int .i64 n, .int .i64 fn, .int .i64 ord] := rfl
    rw [hv]
    clear he h hv hbox0
    go_enter Tryd.func75, Tryd.ntmps75
    go_wp2_with fail
    refine hCK.out.mono ?_
    rintro e' w2 ⟨rfl, b2⟩
    have hb2 := hbW.trans (b2.mono hbW.size)
    go_wp2
    go_ret
    exact ⟨_, 0, rfl, Rd.none (Nat.zero_le _), hb2⟩
end Go.Proofs.YtkanamdfjegcbaaDoor
