/-
  The contracts of inst.Defines, and of the specification's Uses and Defines.
-/
import Derived.Test.YtnnpkbonbemeaaaDoorYIU
import Derived.Test.YtnnpkbonbemeaaaDoorYInsG3
import Derived.Test.YtnnpkbonbemeaaaDoorYOwn
import Derived.Test.YtnnpkbonbemeaaaDoorProg
import Derived.Test.YtnnpkbonbemeaaaDoorRows
import Derived.Deep.QuietTactic
import Derived.BigQuiet
import Derived.Outline
import Derived.LoopTactic
import Derived.Test.YtnnpkbonbemeaaaDoorYPure
namespace Go.Proofs.YtnnpkbonbemeaaaDoor
open Go Go.RowKit

theorem rCheckA (op a b c obj n fn ord r : Int) (hr : (I8.mk8 op a b c obj n fn ord).chk = r) (w : World) :
    Calls Tryd.prog 75 #[.agg #[.int .i64 op, .int .i64 a, .int .i64 b, .int .i64 c, .int .i64 obj, .int .i64 n, .int .i64 fn, .int .i64 ord]] w fun e w' => e = .returned (.int .i64 r) ∧ Below w.heap.size w w' := rCheck _ r hr w
theorem dfNo {i : I8} (h : i.chk ≠ 0) : i.dfR = 0 ∧ i.dfB = false := by unfold I8.dfR I8.dfB; simp [h]
theorem dfYes {i : I8} (h : i.chk = 0) {q : Bool} (hq : i.u 0 = q) : i.dfR = (if q then i.a else 0) ∧ i.dfB = q := by unfold I8.dfR I8.dfB; cases q <;> simp [h, hq]

theorem iDefs (i : I8) (r : Int) (p : Bool) (hr : i.dfR = r) (hp : i.dfB = p) (hi : i.Wf) (w : World) (hT : InsT w) (hN : Nm w) :
    Calls Tryd.prog 73 #[i.val] w fun e w' => e = .returned (.tuple #[.int .i64 r, .bool p]) ∧ Below w.heap.size w w' := by
  obtain ⟨op, a, b, c, obj, n, fn, ord⟩ := i
  obtain ⟨W, hW, hbW, -, hbox⟩ := boxNew w op a b c obj n fn ord
  obtain ⟨c0, c1, c2, c3, c4, c5, c6, c7⟩ := boxFactsW hbox
  have HT := Lib.hid (hT.below hbW)
  have HM := Lib.hid hbox
  have hv : (I8.mk8 op a b c obj n fn ord).val = .agg #[.int .i64 op, .int .i64 a, .int .i64 b, .int .i64 c, .int .i64 obj, .int .i64 n, .int .i64 fn, .int .i64 ord] := rfl
  rw [hv]
  by_cases h : (I8.mk8 op a b c obj n fn ord).chk = 0
  · have hg := (I8.good h).op
    obtain ⟨k, rfl⟩ : ∃ k : Nat, op = k := ⟨op.toNat, by have := hg.1; simp only at this; omega⟩
    simp only at hg
    have hCK := Lib.hid (iCheckA k a b c obj n fn ord 0 h hi W (hT.below hbW) (hN.below hbW))
    obtain ⟨q, hq⟩ : ∃ q, us k 0 = q := ⟨_, rfl⟩
    obtain ⟨e1, e2⟩ := dfYes h (q := q) (by simpa [I8.u] using hq)
    have HE := Lib.hid (And.intro (hr.symm.trans e1) (hp.symm.trans e2))
    have HQ := Lib.hid hq
    have hk0 : (0 : Int) ≤ k := by omega
    have hk23 : (k : Int) < 23 := by omega
    have hkn : (k : Int).toNat = k := by omega
    clear hi hT hN hbox hv h hr hp hq e1 e2
    go_enter Tryd.func73, Tryd.ntmps73
    go_wp2_with fail
    refine hCK.out.mono ?_
    rintro e' w2 ⟨rfl, b2⟩
    have hb2 := hbW.trans (b2.mono hbW.size)
    have HM := Lib.hid (HM.out.below' b2)
    have HT := Lib.hid (HT.out.below b2)
    obtain ⟨c0, c1, c2, c3, c4, c5, c6, c7⟩ := boxFactsW HM.out
    have d0 := HT.out.us k 0 (by omega) (by omega)
    rw [HQ.out, Nat.add_zero] at d0
    cases q
    · go_wp2
      go_ret2
      rw [HE.out.1, HE.out.2]
      exact ⟨rfl, hb2⟩
    · go_wp2
      go_ret2
      rw [HE.out.1, HE.out.2]
      exact ⟨rfl, hb2⟩
  · obtain ⟨e, he⟩ : ∃ e, (I8.mk8 op a b c obj n fn ord).chk = e := ⟨_, rfl⟩
    have hCK := Lib.hid (iCheckA op a b c obj n fn ord e he hi W (hT.below hbW) (hN.below hbW))
    obtain ⟨e1, e2⟩ := dfNo h
    have HE := Lib.hid (And.intro (hr.symm.trans e1) (hp.symm.trans e2))
    have hx : (e != 0) = true := by rw [← he]; simpa using h
    clear hi hT hN hbox hv h hr hp he e1 e2
    go_enter Tryd.func73, Tryd.ntmps73
    go_wp2_with fail
    refine hCK.out.mono ?_
    rintro e' w2 ⟨rfl, b2⟩
    have hb2 := hbW.trans (b2.mono hbW.size)
    go_wp2
    go_ret2
    rw [HE.out.1, HE.out.2]
    exact ⟨rfl, hb2⟩

theorem rDefs (i : I8) (r : Int) (p : Bool) (hr : i.dfR = r) (hp : i.dfB = p) (w : World) :
    Calls Tryd.prog 39 #[i.val] w fun e w' => e = .returned (.tuple #[.int .i64 r, .bool p]) ∧ Below w.heap.size w w' := by
  obtain ⟨op, a, b, c, obj, n, fn, ord⟩ := i
  obtain ⟨W, hW, hbW, -, hbox⟩ := boxNew w op a b c obj n fn ord
  obtain ⟨c0, c1, c2, c3, c4, c5, c6, c7⟩ := boxFactsW hbox
  have HM := Lib.hid hbox
  have hv : (I8.mk8 op a b c obj n fn ord).val = .agg #[.int .i64 op, .int .i64 a, .int .i64 b, .int .i64 c, .int .i64 obj, .int .i64 n, .int .i64 fn, .int .i64 ord] := rfl
  rw [hv]
  by_cases h : (I8.mk8 op a b c obj n fn ord).chk = 0
  · have hg := (I8.good h).op
    obtain ⟨k, rfl⟩ : ∃ k : Nat, op = k := ⟨op.toNat, by have := hg.1; simp only at this; omega⟩
    simp only at hg
    have hCK := Lib.hid (rCheckA k a b c obj n fn ord 0 h W)
    obtain ⟨q, hq⟩ : ∃ q, us k 0 = q := ⟨_, rfl⟩
    obtain ⟨e1, e2⟩ := dfYes h (q := q) (by simpa [I8.u] using hq)
    have HE := Lib.hid (And.intro (hr.symm.trans e1) (hp.symm.trans e2))
    have HA := Lib.hid (rHasN k 0 (by omega) (by omega) (by omega) 65 rfl q hq)
    clear hbox hv h hr hp hq e1 e2
    go_enter Tryd.func39, Tryd.ntmps39
    go_wp2_with fail
    refine hCK.out.mono ?_
    rintro e' w2 ⟨rfl, b2⟩
    have hb2 := hbW.trans (b2.mono hbW.size)
    have HM := Lib.hid (HM.out.below' b2)
    obtain ⟨c0, c1, c2, c3, c4, c5, c6, c7⟩ := boxFactsW HM.out
    go_wp2_with fail
    refine (HA.out _).mono ?_
    rintro e' w3 ⟨rfl, b3⟩
    have hb3 := belowThen hb2 b3
    have HM := Lib.hid (HM.out.below' b3)
    obtain ⟨c0, c1, c2, c3, c4, c5, c6, c7⟩ := boxFactsW HM.out
    cases q
    · go_wp2
      go_ret2
      rw [HE.out.1, HE.out.2]
      exact ⟨rfl, hb3⟩
    · go_wp2
      go_ret2
      rw [HE.out.1, HE.out.2]
      exact ⟨rfl, hb3⟩
  · obtain ⟨e, he⟩ : ∃ e, (I8.mk8 op a b c obj n fn ord).chk = e := ⟨_, rfl⟩
    have hCK := Lib.hid (rCheckA op a b c obj n fn ord e he W)
    obtain ⟨e1, e2⟩ := dfNo h
    have HE := Lib.hid (And.intro (hr.symm.trans e1) (hp.symm.trans e2))
    have hx : (e != 0) = true := by rw [← he]; simpa using h
    clear hbox hv h hr hp he e1 e2
    go_enter Tryd.func39, Tryd.ntmps39
    go_wp2_with fail
    refine hCK.out.mono ?_
    rintro e' w2 ⟨rfl, b2⟩
    have hb2 := hbW.trans (b2.mono hbW.size)
    go_wp2
    go_ret2
    rw [HE.out.1, HE.out.2]
    exact ⟨rfl, hb2⟩

theorem OwnI.below {W X : World} {base : Nat} {v : Value} {l : List Int} (h : OwnI W base v l) (hX : Below W.heap.size W X) : OwnI X base v l := by
  refine ⟨h.1, ?_⟩
  rcases h.2 with h0 | ⟨g, cap, cur, hv, hb, hg, hr⟩
  · exact .inl h0
  · exact .inr ⟨g, cap, cur, hv, hb, (hX.block g (Array.getElem?_eq_some_iff.1 hg).1).trans hg, hr⟩
end Go.Proofs.YtnnpkbonbemeaaaDoor
