/-
  The contract of the specification's Check: the first error of an instruction.
-/
import Derived.Test.YtpkagpobobmnfaaGreatDoorPInsG1
import Derived.Test.YtpkagpobobmnfaaGreatDoorPInsG2
import Derived.Test.YtpkagpobobmnfaaGreatDoorPIU
import Derived.Test.YtpkagpobobmnfaaGreatDoorPMk
import Derived.Test.YtpkagpobobmnfaaGreatDoorPInG
import Derived.Test.YtpkagpobobmnfaaGreatDoorPOwn
import Derived.Test.YtpkagpobobmnfaaGreatDoorProg
import Derived.Test.YtpkagpobobmnfaaGreatDoorRows
import Derived.Deep.QuietTactic
import Derived.BigQuiet
import Derived.Outline
import Derived.LoopTactic
namespace Go.Proofs.YtpkagpobobmnfaaGreatDoor
open Go.RowKit

theorem uvecAll : ∀ k, k < 23 → 1 ≤ k → uvec k ∈ [[true, false, false, false, true, false, false], [true, true, false, false, false, false, false], [true, true, true, false, false, true, false], [false, false, false, false, true, false, false], [false, true, false, false, true, false, false], [false, true, false, false, false, false, false], [false, false, false, false, false, false, false], [true, false, false, true, false, false, true], [false, true, false, true, false, false, true], [true, true, false, true, false, false, true], [true, true, true, true, false, false, true], [true, true, false, true, false, true, true], [false, false, false, true, false, false, false], [true, false, false, true, false, false, false], [false, false, false, true, true, false, false], [true, true, false, true, false, false, false]] := by decide
theorem rCheckIn (k : Nat) (h1 : 1 ≤ k) (h2 : k ≤ 22) (a b c obj n fn ord : Int) (w : World) :
    Calls Tryz.prog 64 #[(I8.mk8 k a b c obj n fn ord).val] w fun e w' => e = .returned (.int .i64 (I8.mk8 k a b c obj n fn ord).chk) ∧ Below w.heap.size w w' := by
  have h := uvecAll k (by omega) h1
  simp only [List.mem_cons, List.not_mem_nil, or_false] at h
  rcases h with h | h | h | h | h | h | h | h | h | h | h | h | h | h | h | h
  · exact rCheckV0 k h1 h2 a b c obj n fn ord w h
  · exact rCheckV1 k h1 h2 a b c obj n fn ord w h
  · exact rCheckV2 k h1 h2 a b c obj n fn ord w h
  · exact rCheckV3 k h1 h2 a b c obj n fn ord w h
  · exact rCheckV4 k h1 h2 a b c obj n fn ord w h
  · exact rCheckV5 k h1 h2 a b c obj n fn ord w h
  · exact rCheckV6 k h1 h2 a b c obj n fn ord w h
  · exact rCheckV7 k h1 h2 a b c obj n fn ord w h
  · exact rCheckV8 k h1 h2 a b c obj n fn ord w h
  · exact rCheckV9 k h1 h2 a b c obj n fn ord w h
  · exact rCheckV10 k h1 h2 a b c obj n fn ord w h
  · exact rCheckV11 k h1 h2 a b c obj n fn ord w h
  · exact rCheckV12 k h1 h2 a b c obj n fn ord w h
  · exact rCheckV13 k h1 h2 a b c obj n fn ord w h
  · exact rCheckV14 k h1 h2 a b c obj n fn ord w h
  · exact rCheckV15 k h1 h2 a b c obj n fn ord w h
theorem rCheckNo (i : I8) (h : opOk i.op = false) (w : World) :
    Calls Tryz.prog 64 #[i.val] w fun e w' => e = .returned (.int .i64 8) ∧ Below w.heap.size w w' := by
  obtain ⟨op, a, b, c, obj, n, fn, ord⟩ := i
  have h : opOk op = false := h
  simp only [opOk, decide_eq_false_iff_not] at h
  have hb := belowAlloc w (.cells #[.int .i64 op, .int .i64 a, .int .i64 b, .int .i64 c, .int .i64 obj, .int .i64 n, .int .i64 fn, .int .i64 ord] 55)
  simp only [I8.val]
  by_cases h1 : op < 1
  · go_enter Tryz.func64, Tryz.ntmps64
    go_wp2
    go_ret
    exact ⟨rfl, hb⟩
  · have h3 : 1 ≤ op := by omega
    have h2 : 22 < op := by omega
    clear h h1
    go_enter Tryz.func64, Tryz.ntmps64
    go_wp2
    go_ret
    exact ⟨rfl, hb⟩
/-- The specification's Check: the first error of an instruction. -/
theorem rCheck (i : I8) (r : Int) (hr : i.chk = r) (w : World) :
    Calls Tryz.prog 64 #[i.val] w fun e w' => e = .returned (.int .i64 r) ∧ Below w.heap.size w w' := by
  subst hr
  cases h : opOk i.op with
  | false =>
    have e : i.chk = 8 := by unfold I8.chk; rw [if_pos h]
    rw [e]
    exact rCheckNo i h w
  | true =>
    have h' := h
    simp only [opOk, decide_eq_true_eq] at h'
    obtain ⟨op, a, b, c, obj, n, fn, ord⟩ := i
    obtain ⟨k, rfl⟩ : ∃ k : Nat, op = k := ⟨op.toNat, by have := h'.1; simp only at this; omega⟩
    simp only at h'
    exact rCheckIn k (by omega) (by omega) a b c obj n fn ord w
end Go.Proofs.YtpkagpobobmnfaaGreatDoor

namespace Go.Proofs.YtpkagpobobmnfaaGreatDoor
open Go Go.RowKit

theorem rCheckA (op a b c obj n fn ord r : Int) (hr : (I8.mk8 op a b c obj n fn ord).chk = r) (w : World) :
    Calls Tryz.prog 64 #[.agg #[.int .i64 op, .int .i64 a, .int .i64 b, .int .i64 c, .int .i64 obj, .int .i64 n, .int .i64 fn, .int .i64 ord]] w fun e w' => e = .returned (.int .i64 r) ∧ Below w.heap.size w w' := rCheck _ r hr w
theorem dfNo {i : I8} (h : i.chk ≠ 0) : i.dfR = 0 ∧ i.dfB = false := by unfold I8.dfR I8.dfB; simp [h]
theorem dfYes {i : I8} (h : i.chk = 0) {q : Bool} (hq : i.u 0 = q) : i.dfR = (if q then i.a else 0) ∧ i.dfB = q := by unfold I8.dfR I8.dfB; cases q <;> simp [h, hq]

theorem iDefs (i : I8) (r : Int) (p : Bool) (hr : i.dfR = r) (hp : i.dfB = p) (hi : i.Wf) (w : World) (hT : InsT w) (hN : Nm w) :
    Calls Tryz.prog 94 #[i.val] w fun e w' => e = .returned (.tuple #[.int .i64 r, .bool p]) ∧ Below w.heap.size w w' := by
  obtain ⟨op, a, b, c, obj, n, fn, ord⟩ := i
  obtain ⟨W, hW, hbW, -, hbox⟩ := boxNew w op a b c obj n fn ord
  obtain ⟨c0, c1, c2, c3, c4, c5, c6, c7⟩ := boxFactsW hbox
  have HT := Lib.hid (hT.below hbW)
  have HM := Lib.hid hbox
  have hv : (I8.mk8 op a b c obj n fn ord).val = .agg #[.int .i64 op, .int .i64 a, .int .i64 b, .int .i64 c, .int .i64 obj, .int .i64 n, .int .i64 fn, .int .i64 ord] := rfl
  rw [hv]
  by_cases h : (I8.mk8 op a b c obj n fn ord).chk = 0
  · have hg := (I8.good h).op
    obtain ⟨k, rfl⟩ : ∃ k : Nat, op = k := ⟨op.toNat, by have := hg.1; simp only at this; omega⟩
    simp only at hg
    have hCK := Lib.hid (iCheckA k a b c obj n fn ord 0 h hi W (hT.below hbW) (hN.below hbW))
    obtain ⟨q, hq⟩ : ∃ q, us k 0 = q := ⟨_, rfl⟩
    obtain ⟨e1, e2⟩ := dfYes h (q := q) (by simpa [I8.u] using hq)
    have HE := Lib.hid (And.intro (hr.symm.trans e1) (hp.symm.trans e2))
    have HQ := Lib.hid hq
    have hk0 : (0 : Int) ≤ k := by omega
    have hk23 : (k : Int) < 23 := by omega
    have hkn : (k : Int).toNat = k := by omega
    clear hi hT hN hbox hv h hr hp hq e1 e2
    go_enter Tryz.func94, Tryz.ntmps94
    go_wp2_with fail
    refine hCK.out.mono ?_
    rintro e' w2 ⟨rfl, b2⟩
    have hb2 := hbW.trans (b2.mono hbW.size)
    have HM := Lib.hid (HM.out.below' b2)
    have HT := Lib.hid (HT.out.below b2)
    obtain ⟨c0, c1, c2, c3, c4, c5, c6, c7⟩ := boxFactsW HM.out
    have d0 := HT.out.us k 0 (by omega) (by omega)
    rw [HQ.out, Nat.add_zero] at d0
    cases q
    · go_wp2
      go_ret2
      rw [HE.out.1, HE.out.2]
      exact ⟨rfl, hb2⟩
    · go_wp2
      go_ret2
      rw [HE.out.1, HE.out.2]
      exact ⟨rfl, hb2⟩
  · obtain ⟨e, he⟩ : ∃ e, (I8.mk8 op a b c obj n fn ord).chk = e := ⟨_, rfl⟩
    have hCK := Lib.hid (iCheckA op a b c obj n fn ord e he hi W (hT.below hbW) (hN.below hbW))
    obtain ⟨e1, e2⟩ := dfNo h
    have HE := Lib.hid (And.intro (hr.symm.trans e1) (hp.symm.trans e2))
    have hx : (e != 0) = true := by rw [← he]; simpa using h
    clear hi hT hN hbox hv h hr hp he e1 e2
    go_enter Tryz.func94, Tryz.ntmps94
    go_wp2_with fail
    refine hCK.out.mono ?_
    rintro e' w2 ⟨rfl, b2⟩
    have hb2 := hbW.trans (b2.mono hbW.size)
    go_wp2
    go_ret2
    rw [HE.out.1, HE.out.2]
    exact ⟨rfl, hb2⟩

theorem rDefs (i : I8) (r : Int) (p : Bool) (hr : i.dfR = r) (hp : i.dfB = p) (w : World) :
    Calls Tryz.prog 139 #[i.val] w fun e w' => e = .returned (.tuple #[.int .i64 r, .bool p]) ∧ Below w.heap.size w w' := by
  obtain ⟨op, a, b, c, obj, n, fn, ord⟩ := i
  obtain ⟨W, hW, hbW, -, hbox⟩ := boxNew w op a b c obj n fn ord
  obtain ⟨c0, c1, c2, c3, c4, c5, c6, c7⟩ := boxFactsW hbox
  have HM := Lib.hid hbox
  have hv : (I8.mk8 op a b c obj n fn ord).val = .agg #[.int .i64 op, .int .i64 a, .int .i64 b, .int .i64 c, .int .i64 obj, .int .i64 n, .int .i64 fn, .int .i64 ord] := rfl
  rw [hv]
  by_cases h : (I8.mk8 op a b c obj n fn ord).chk = 0
  · have hg := (I8.good h).op
    obtain ⟨k, rfl⟩ : ∃ k : Nat, op = k := ⟨op.toNat, by have := hg.1; simp only at this; omega⟩
    simp only at hg
    have hCK := Lib.hid (rCheckA k a b c obj n fn ord 0 h W)
    obtain ⟨q, hq⟩ : ∃ q, us k 0 = q := ⟨_, rfl⟩
    obtain ⟨e1, e2⟩ := dfYes h (q := q) (by simpa [I8.u] using hq)
    have HE := Lib.hid (And.intro (hr.symm.trans e1) (hp.symm.trans e2))
    have HA := Lib.hid (rHasN k 0 (by omega) (by omega) (by omega) 65 rfl q hq)
    clear hbox hv h hr hp hq e1 e2
    go_enter Tryz.func139, Tryz.ntmps139
    go_wp2_with fail
    refine hCK.out.mono ?_
    rintro e' w2 ⟨rfl, b2⟩
    have hb2 := hbW.trans (b2.mono hbW.size)
    have HM := Lib.hid (HM.out.below' b2)
    obtain ⟨c0, c1, c2, c3, c4, c5, c6, c7⟩ := boxFactsW HM.out
    go_wp2_with fail
    refine (HA.out _).mono ?_
    rintro e' w3 ⟨rfl, b3⟩
    have hb3 := belowThen hb2 b3
    have HM := Lib.hid (HM.out.below' b3)
    obtain ⟨c0, c1, c2, c3, c4, c5, c6, c7⟩ := boxFactsW HM.out
    cases q
    · go_wp2
      go_ret2
      rw [HE.out.1, HE.out.2]
      exact ⟨rfl, hb3⟩
    · go_wp2
      go_ret2
      rw [HE.out.1, HE.out.2]
      exact ⟨rfl, hb3⟩
  · obtain ⟨e, he⟩ : ∃ e, (I8.mk8 op a b c obj n fn ord).chk = e := ⟨_, rfl⟩
    have hCK := Lib.hid (rCheckA op a b c obj n fn ord e he W)
    obtain ⟨e1, e2⟩ := dfNo h
    have HE := Lib.hid (And.intro (hr.symm.trans e1) (hp.symm.trans e2))
    have hx : (e != 0) = true := by rw [← he]; simpa using h
    clear hbox hv h hr hp he e1 e2
    go_enter Tryz.func139, Tryz.ntmps139
    go_wp2_with fail
    refine hCK.out.mono ?_
    rintro e' w2 ⟨rfl, b2⟩
    have hb2 := hbW.trans (b2.mono hbW.size)
    go_wp2
    go_ret2
    rw [HE.out.1, HE.out.2]
    exact ⟨rfl, hb2⟩

theorem OwnI.below {W X : World} {base : Nat} {v : Value} {l : List Int} (h : OwnI W base v l) (hX : Below W.heap.size W X) : OwnI X base v l := by
  refine ⟨h.1, ?_⟩
  rcases h.2 with h0 | ⟨g, cap, cur, hv, hb, hg, hr⟩
  · exact .inl h0
  · exact .inr ⟨g, cap, cur, hv, hb, (hX.block g (Array.getElem?_eq_some_iff.1 hg).1).trans hg, hr⟩
end Go.Proofs.YtpkagpobobmnfaaGreatDoor

namespace Go.Proofs.YtpkagpobobmnfaaGreatDoor
open Go Go.RowKit

theorem infoInst : (Tryz.prog.info? 55).map (·.size) = some 8 := by kernel_rfl
theorem stored8 {W : World} {b : Nat} {T : TypeId} {x0 x1 x2 x3 x4 x5 x6 x7 v0 v1 v2 v3 v4 v5 v6 v7 : Value} (h : Blk W b T #[x0, x1, x2, x3, x4, x5, x6, x7]) : Blk ((((((((W.setCell ⟨b, 0, none⟩ v0).setCell ⟨b, 1, none⟩ v1).setCell ⟨b, 2, none⟩ v2).setCell ⟨b, 3, none⟩ v3).setCell ⟨b, 4, none⟩ v4).setCell ⟨b, 5, none⟩ v5).setCell ⟨b, 6, none⟩ v6).setCell ⟨b, 7, none⟩ v7) b T #[v0, v1, v2, v3, v4, v5, v6, v7] :=
  by simpa using (((((((h.set 0 v0).set 1 v1).set 2 v2).set 3 v3).set 4 v4).set 5 v5).set 6 v6).set 7 v7
theorem belowSt {B : Nat} {a b : World} (h : Below B a b) (g i : Nat) (v : Value) (hp : B ≤ g) : Below B a (b.setCell ⟨g, i, none⟩ v) :=
  ⟨h.os, h.tape, h.output, by simpa using h.size, fun k hk => (heap_setCell_other b ⟨g, i, none⟩ k v (by show k ≠ g; omega)).trans (h.block k hk)⟩
theorem below8 {W a : World} {B b : Nat} {v0 v1 v2 v3 v4 v5 v6 v7 : Value} (h : Below B a W) (hb : B ≤ b) : Below B a ((((((((W.setCell ⟨b, 0, none⟩ v0).setCell ⟨b, 1, none⟩ v1).setCell ⟨b, 2, none⟩ v2).setCell ⟨b, 3, none⟩ v3).setCell ⟨b, 4, none⟩ v4).setCell ⟨b, 5, none⟩ v5).setCell ⟨b, 6, none⟩ v6).setCell ⟨b, 7, none⟩ v7) :=
  belowSt (belowSt (belowSt (belowSt (belowSt (belowSt (belowSt (belowSt h b 0 _ hb) b 1 _ hb) b 2 _ hb) b 3 _ hb) b 4 _ hb) b 5 _ hb) b 6 _ hb) b 7 _ hb
theorem blkFacts {W : World} {b : Nat} {T : TypeId} {x0 x1 x2 x3 x4 x5 x6 x7 : Value} (h : Blk W b T #[x0, x1, x2, x3, x4, x5, x6, x7]) : (W.cell? ⟨b, 0, none⟩ = some x0 ∧ W.cell? ⟨b, 1, none⟩ = some x1 ∧ W.cell? ⟨b, 2, none⟩ = some x2 ∧ W.cell? ⟨b, 3, none⟩ = some x3 ∧ W.cell? ⟨b, 4, none⟩ = some x4 ∧ W.cell? ⟨b, 5, none⟩ = some x5 ∧ W.cell? ⟨b, 6, none⟩ = some x6 ∧ W.cell? ⟨b, 7, none⟩ = some x7) ∧ (W.frozen? ⟨b, 0, none⟩ = false ∧ W.frozen? ⟨b, 1, none⟩ = false ∧ W.frozen? ⟨b, 2, none⟩ = false ∧ W.frozen? ⟨b, 3, none⟩ = false ∧ W.frozen? ⟨b, 4, none⟩ = false ∧ W.frozen? ⟨b, 5, none⟩ = false ∧ W.frozen? ⟨b, 6, none⟩ = false ∧ W.frozen? ⟨b, 7, none⟩ = false) :=
  ⟨⟨h.cell 0, h.cell 1, h.cell 2, h.cell 3, h.cell 4, h.cell 5, h.cell 6, h.cell 7⟩, h.frozen 0, h.frozen 1, h.frozen 2, h.frozen 3, h.frozen 4, h.frozen 5, h.frozen 6, h.frozen 7⟩

end Go.Proofs.YtpkagpobobmnfaaGreatDoor

namespace Go.Proofs.YtpkagpobobmnfaaGreatDoor
open Go Go.RowKit

/-- The tables of the operations and of the names of the functions are laid. -/
structure Laid7 (w : World) : Prop where
  ins : InsT w
  nm : Nm w
theorem Laid7.below {W X : World} {B : Nat} (h : Laid7 W) (hb : Below B W X) (hB : W.heap.size ≤ B := by exact Nat.le_refl _) : Laid7 X := ⟨h.ins.below hb hB, h.nm.below hb hB⟩
end Go.Proofs.YtpkagpobobmnfaaGreatDoor
