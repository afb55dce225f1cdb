/-
  The contract of inst.Rename: the renamed instruction or the error.
-/
import Derived.Test.YtkanamdfjegcbaaDoorMG3
import Derived.Test.YtkanamdfjegcbaaDoorMInsF
import Derived.Test.YtkanamdfjegcbaaDoorMR
namespace Go.Proofs.YtkanamdfjegcbaaDoor
open Go Go.RowKit

/-- The error of Rename, and its instruction. -/
def I8.renE (i : I8) (l : List Int) : Int := if i.chk ≠ 0 then i.chk else if l.length ≠ 8 then 1 else if l.all rgOk = false then 10 else 0
def I8.renI (i : I8) (l : List Int) : I8 := if i.renE l = 0 then i.ren (mpL l) else I8.zero
theorem renBad {i : I8} {l : List Int} (h : i.chk ≠ 0) : i.renE l = i.chk ∧ i.renI l = I8.zero := by
  have e : i.renE l = i.chk := by unfold I8.renE; rw [if_pos h]
  exact ⟨e, by unfold I8.renI; rw [e, if_neg h]⟩
theorem renLen {i : I8} {l : List Int} (h : i.chk = 0) (hl : l.length ≠ 8) : i.renE l = 1 ∧ i.renI l = I8.zero := by
  have e : i.renE l = 1 := by unfold I8.renE; rw [if_neg (by simp [h]), if_pos hl]
  exact ⟨e, by unfold I8.renI; rw [e]; rfl⟩
theorem renReg {i : I8} {l : List Int} (h : i.chk = 0) (hl : l.length = 8) {k : Nat} (hk : k < l.length) (hb : rgOk l[k] = false) : i.renE l = 10 ∧ i.renI l = I8.zero := by
  have hf : l.all rgOk = false := by
    rw [List.all_eq_false]
    exact ⟨_, List.getElem_mem hk, by simp [hb]⟩
  have e : i.renE l = 10 := by unfold I8.renE; rw [if_neg (by simp [h]), if_neg (by simp [hl]), if_pos hf]
  exact ⟨e, by unfold I8.renI; rw [e]; rfl⟩
theorem renOk {i : I8} {l : List Int} (h : i.chk = 0) (hl : l.length = 8) (hb : ∀ x ∈ l, rgOk x = true) : i.renE l = 0 ∧ i.renI l = i.ren (mpL l) := by
  have hf : l.all rgOk = true := by rw [List.all_eq_true]; exact hb
  have e : i.renE l = 0 := by unfold I8.renE; rw [if_neg (by simp [h]), if_neg (by simp [hl]), if_neg (by simp [hf])]
  exact ⟨e, by unfold I8.renI; rw [e]; rfl⟩
theorem rdFlat {w : World} {A : Option Addr} {c : Nat} {l : List Int} (h : Rd w A c l) (hl : 0 < l.length) : ∃ b off, A = some ⟨b, off, none⟩ ∧ b < w.heap.size ∧ ∀ j (hj : j < l.length), w.cell? ⟨b, off + j, none⟩ = some (.int .i64 l[j]) := by
  obtain ⟨b, off, e, hb, hc⟩ := h.plain hl
  refine ⟨b, off, e, hb, fun j hj => ?_⟩
  rw [hc j hj]
  simp [List.getD, hj]
theorem mpAt {l : List Int} (j : Nat) (h : j < l.length) : l[j] = mpL l j := by
  unfold mpL
  rw [Int.toNat_natCast, List.getD_eq_getElem?_getD, List.getElem?_eq_getElem h]
  rfl
theorem infoInst : (Tryd.prog.info? 44).map (·.size) = some 8 := by kernel_rfl
abbrev zeros8 : Array Value := #[.int .i64 0, .int .i64 0, .int .i64 0, .int .i64 0, .int .i64 0, .int .i64 0, .int .i64 0, .int .i64 0]

theorem stored8 {W : World} {b : Nat} {T : TypeId} {x0 x1 x2 x3 x4 x5 x6 x7 v0 v1 v2 v3 v4 v5 v6 v7 : Value} (h : Blk W b T #[x0, x1, x2, x3, x4, x5, x6, x7]) : Blk ((((((((W.setCell ⟨b, 0, none⟩ v0).setCell ⟨b, 1, none⟩ v1).setCell ⟨b, 2, none⟩ v2).setCell ⟨b, 3, none⟩ v3).setCell ⟨b, 4, none⟩ v4).setCell ⟨b, 5, none⟩ v5).setCell ⟨b, 6, none⟩ v6).setCell ⟨b, 7, none⟩ v7) b T #[v0, v1, v2, v3, v4, v5, v6, v7] :=
  by simpa using (((((((h.set 0 v0).set 1 v1).set 2 v2).set 3 v3).set 4 v4).set 5 v5).set 6 v6).set 7 v7
theorem belowSt {B : Nat} {a b : World} (h : Below B a b) (g i : Nat) (v : Value) (hp : B ≤ g) : Below B a (b.setCell ⟨g, i, none⟩ v) :=
  ⟨h.os, h.tape, h.output, by simpa using h.size, fun k hk => (heap_setCell_other b ⟨g, i, none⟩ k v (by show k ≠ g; omega)).trans (h.block k hk)⟩
theorem below8 {W a : World} {B b : Nat} {v0 v1 v2 v3 v4 v5 v6 v7 : Value} (h : Below B a W) (hb : B ≤ b) : Below B a ((((((((W.setCell ⟨b, 0, none⟩ v0).setCell ⟨b, 1, none⟩ v1).setCell ⟨b, 2, none⟩ v2).setCell ⟨b, 3, none⟩ v3).setCell ⟨b, 4, none⟩ v4).setCell ⟨b, 5, none⟩ v5).setCell ⟨b, 6, none⟩ v6).setCell ⟨b, 7, none⟩ v7) :=
  belowSt (belowSt (belowSt (belowSt (belowSt (belowSt (belowSt (belowSt h b 0 _ hb) b 1 _ hb) b 2 _ hb) b 3 _ hb) b 4 _ hb) b 5 _ hb) b 6 _ hb) b 7 _ hb
theorem blkFacts {W : World} {b : Nat} {T : TypeId} {x0 x1 x2 x3 x4 x5 x6 x7 : Value} (h : Blk W b T #[x0, x1, x2, x3, x4, x5, x6, x7]) : (W.cell? ⟨b, 0, none⟩ = some x0 ∧ W.cell? ⟨b, 1, none⟩ = some x1 ∧ W.cell? ⟨b, 2, none⟩ = some x2 ∧ W.cell? ⟨b, 3, none⟩ = some x3 ∧ W.cell? ⟨b, 4, none⟩ = some x4 ∧ W.cell? ⟨b, 5, none⟩ = some x5 ∧ W.cell? ⟨b, 6, none⟩ = some x6 ∧ W.cell? ⟨b, 7, none⟩ = some x7) ∧ (W.frozen? ⟨b, 0, none⟩ = false ∧ W.frozen? ⟨b, 1, none⟩ = false ∧ W.frozen? ⟨b, 2, none⟩ = false ∧ W.frozen? ⟨b, 3, none⟩ = false ∧ W.frozen? ⟨b, 4, none⟩ = false ∧ W.frozen? ⟨b, 5, none⟩ = false ∧ W.frozen? ⟨b, 6, none⟩ = false ∧ W.frozen? ⟨b, 7, none⟩ = false) :=
  ⟨⟨h.cell 0, h.cell 1, h.cell 2, h.cell 3, h.cell 4, h.cell 5, h.cell 6, h.cell 7⟩, h.frozen 0, h.frozen 1, h.frozen 2, h.frozen 3, h.frozen 4, h.frozen 5, h.frozen 6, h.frozen 7⟩

end Go.Proofs.YtkanamdfjegcbaaDoor

namespace Go.Proofs.YtkanamdfjegcbaaDoor
open Go Go.RowKit

/-- What lies in memory while the specification's Rename fills its result: the instruction, the result's place, the copy, the mapping. -/
structure RSt (w : World) (B bb pa pb pc : Nat) (k a b c obj n fn ord ma mb mc a' b' c' : Int) (W : World) : Prop where
  i : Blk W w.heap.size 44 #[.int .i64 k, .int .i64 a, .int .i64 b, .int .i64 c, .int .i64 obj, .int .i64 n, .int .i64 fn, .int .i64 ord]
  r : Blk W (w.heap.size + 1) 44 zeros8
  o : Blk W B 44 #[.int .i64 k, .int .i64 a', .int .i64 b', .int .i64 c', .int .i64 obj, .int .i64 n, .int .i64 fn, .int .i64 ord]
  xa : W.cell? ⟨bb, pa, none⟩ = some (.int .i64 ma)
  xb : W.cell? ⟨bb, pb, none⟩ = some (.int .i64 mb)
  xc : W.cell? ⟨bb, pc, none⟩ = some (.int .i64 mc)
  low : Below w.heap.size w W
  hb : bb < w.heap.size
  hB : w.heap.size + 1 < B
section
variable {w : World} {B bb pa pb pc : Nat} {k a b c obj n fn ord ma mb mc a' b' c' : Int} {W : World} (h : RSt w B bb pa pb pc k a b c obj n fn ord ma mb mc a' b' c' W)
include h
theorem RSt.below {X : World} (hX : Below W.heap.size W X) : RSt w B bb pa pb pc k a b c obj n fn ord ma mb mc a' b' c' X :=
  have hl := Nat.lt_of_lt_of_le h.hb h.low.size
  ⟨h.i.below' hX, h.r.below' hX, h.o.below' hX, (hX.cell hl).trans h.xa, (hX.cell hl).trans h.xb, (hX.cell hl).trans h.xc, h.low.trans (hX.mono h.low.size), h.hb, h.hB⟩
theorem RSt.cellO (p j : Nat) (v : Value) : (W.setCell ⟨B, j, none⟩ v).cell? ⟨bb, p, none⟩ = W.cell? ⟨bb, p, none⟩ := by
  have hne : bb ≠ B := by have := h.hb; have := h.hB; omega
  simp only [World.cell?, heap_setCell_other W ⟨B, j, none⟩ bb v hne]
theorem RSt.put (j : Nat) (v : Value) {x y z : Int} (e : Blk (W.setCell ⟨B, j, none⟩ v) B 44 #[.int .i64 k, .int .i64 x, .int .i64 y, .int .i64 z, .int .i64 obj, .int .i64 n, .int .i64 fn, .int .i64 ord]) : RSt w B bb pa pb pc k a b c obj n fn ord ma mb mc x y z (W.setCell ⟨B, j, none⟩ v) :=
  ⟨h.i.other (by have := h.hB; omega) j v, h.r.other (by have := h.hB; omega) j v, e, (h.cellO _ _ _).trans h.xa, (h.cellO _ _ _).trans h.xb, (h.cellO _ _ _).trans h.xc, belowSt h.low _ _ _ (by have := h.hB; omega), h.hb, h.hB⟩
theorem RSt.setA : RSt w B bb pa pb pc k a b c obj n fn ord ma mb mc ma b' c' (W.setCell ⟨B, 1, none⟩ (.int .i64 ma)) := h.put 1 _ (by simpa using h.o.set 1 (.int .i64 ma))
theorem RSt.setB : RSt w B bb pa pb pc k a b c obj n fn ord ma mb mc a' mb c' (W.setCell ⟨B, 2, none⟩ (.int .i64 mb)) := h.put 2 _ (by simpa using h.o.set 2 (.int .i64 mb))
theorem RSt.setC : RSt w B bb pa pb pc k a b c obj n fn ord ma mb mc a' b' mc (W.setCell ⟨B, 3, none⟩ (.int .i64 mc)) := h.put 3 _ (by simpa using h.o.set 3 (.int .i64 mc))
theorem RSt.facts : ((W.cell? ⟨w.heap.size, 0, none⟩ = some (.int .i64 k) ∧ W.cell? ⟨w.heap.size, 1, none⟩ = some (.int .i64 a) ∧ W.cell? ⟨w.heap.size, 2, none⟩ = some (.int .i64 b) ∧ W.cell? ⟨w.heap.size, 3, none⟩ = some (.int .i64 c) ∧ W.cell? ⟨w.heap.size, 4, none⟩ = some (.int .i64 obj) ∧ W.cell? ⟨w.heap.size, 5, none⟩ = some (.int .i64 n) ∧ W.cell? ⟨w.heap.size, 6, none⟩ = some (.int .i64 fn) ∧ W.cell? ⟨w.heap.size, 7, none⟩ = some (.int .i64 ord)) ∧ (W.frozen? ⟨w.heap.size, 0, none⟩ = false ∧ W.frozen? ⟨w.heap.size, 1, none⟩ = false ∧ W.frozen? ⟨w.heap.size, 2, none⟩ = false ∧ W.frozen? ⟨w.heap.size, 3, none⟩ = false ∧ W.frozen? ⟨w.heap.size, 4, none⟩ = false ∧ W.frozen? ⟨w.heap.size, 5, none⟩ = false ∧ W.frozen? ⟨w.heap.size, 6, none⟩ = false ∧ W.frozen? ⟨w.heap.size, 7, none⟩ = false)) ∧ ((W.cell? ⟨B, 0, none⟩ = some (.int .i64 k) ∧ W.cell? ⟨B, 1, none⟩ = some (.int .i64 a') ∧ W.cell? ⟨B, 2, none⟩ = some (.int .i64 b') ∧ W.cell? ⟨B, 3, none⟩ = some (.int .i64 c') ∧ W.cell? ⟨B, 4, none⟩ = some (.int .i64 obj) ∧ W.cell? ⟨B, 5, none⟩ = some (.int .i64 n) ∧ W.cell? ⟨B, 6, none⟩ = some (.int .i64 fn) ∧ W.cell? ⟨B, 7, none⟩ = some (.int .i64 ord)) ∧ (W.frozen? ⟨B, 0, none⟩ = false ∧ W.frozen? ⟨B, 1, none⟩ = false ∧ W.frozen? ⟨B, 2, none⟩ = false ∧ W.frozen? ⟨B, 3, none⟩ = false ∧ W.frozen? ⟨B, 4, none⟩ = false ∧ W.frozen? ⟨B, 5, none⟩ = false ∧ W.frozen? ⟨B, 6, none⟩ = false ∧ W.frozen? ⟨B, 7, none⟩ = false)) ∧ ((W.cell? ⟨(w.heap.size + 1), 0, none⟩ = some (.int .i64 0) ∧ W.cell? ⟨(w.heap.size + 1), 1, none⟩ = some (.int .i64 0) ∧ W.cell? ⟨(w.heap.size + 1), 2, none⟩ = some (.int .i64 0) ∧ W.cell? ⟨(w.heap.size + 1), 3, none⟩ = some (.int .i64 0) ∧ W.cell? ⟨(w.heap.size + 1), 4, none⟩ = some (.int .i64 0) ∧ W.cell? ⟨(w.heap.size + 1), 5, none⟩ = some (.int .i64 0) ∧ W.cell? ⟨(w.heap.size + 1), 6, none⟩ = some (.int .i64 0) ∧ W.cell? ⟨(w.heap.size + 1), 7, none⟩ = some (.int .i64 0)) ∧ (W.frozen? ⟨(w.heap.size + 1), 0, none⟩ = false ∧ W.frozen? ⟨(w.heap.size + 1), 1, none⟩ = false ∧ W.frozen? ⟨(w.heap.size + 1), 2, none⟩ = false ∧ W.frozen? ⟨(w.heap.size + 1), 3, none⟩ = false ∧ W.frozen? ⟨(w.heap.size + 1), 4, none⟩ = false ∧ W.frozen? ⟨(w.heap.size + 1), 5, none⟩ = false ∧ W.frozen? ⟨(w.heap.size + 1), 6, none⟩ = false ∧ W.frozen? ⟨(w.heap.size + 1), 7, none⟩ = false)) ∧ W.cell? ⟨bb, pa, none⟩ = some (.int .i64 ma) ∧ W.cell? ⟨bb, pb, none⟩ = some (.int .i64 mb) ∧ W.cell? ⟨bb, pc, none⟩ = some (.int .i64 mc) :=
  ⟨blkFacts h.i, blkFacts h.o, blkFacts h.r, h.xa, h.xb, h.xc⟩
end

set_option maxHeartbeats 1000000 in
theorem rRenLen (k : Nat) (h1 : 1 ≤ k) (h2 : k ≤ 22) (a b c : Nat) (obj n fn ord : Int) (he : (I8.mk8 k a b c obj n fn ord).chk = 0) (l : List Int) (nl : Nat) (hn8 : nl ≠ 8) (hl : l.length = nl) (A : Option Addr) (cp : Nat) (w : World) (hA : Rd w A cp l) (I : I8) (E : Int) (hI : (I8.mk8 k a b c obj n fn ord).renI l = I) (hE : (I8.mk8 k a b c obj n fn ord).renE l = E) :
    Calls Tryd.prog 23 #[.agg #[.int .i64 k, .int .i64 a, .int .i64 b, .int .i64 c, .int .i64 obj, .int .i64 n, .int .i64 fn, .int .i64 ord], .slice A nl cp] w fun e w' => e = .returned (.tuple #[I.val, .int .i64 E]) ∧ Below w.heap.size w w' := by
  have hla := hA.le
  have hca := hA.max
  rw [hl] at hla
  unfold maxLen at hca
  obtain ⟨W0, hW0, hbW0, hzW0, hbox0⟩ := boxNew w k a b c obj n fn ord
  obtain ⟨W, hW⟩ : ∃ W, W0.alloc (.cells zeros8 44) = W := ⟨_, rfl⟩
  have hbW1 : Below W0.heap.size W0 W := by rw [← hW]; exact belowAlloc W0 _
  have hbW : Below w.heap.size w W := hbW0.trans (hbW1.mono hbW0.size)
  have hbox := hbox0.below' hbW1
  have hres : Blk W (w.heap.size + 1) 44 zeros8 := by rw [← hW, ← hzW0]; exact Blk.new W0 _ _
  have hzW : W.heap.size = w.heap.size + 2 := by rw [← hW]; simp; omega
  obtain ⟨c0, c1, c2, c3, c4, c5, c6, c7⟩ := boxFactsW hbox
  have hCK := Lib.hid (rCheckA k a b c obj n fn ord 0 he W)
  have HM := Lib.hid hbox
  have HRB := Lib.hid hres
  have HA := Lib.hid (hA.below hbW)
  have HL := Lib.hid hl
  have HE := Lib.hid he
  have HIE := Lib.hid (And.intro hI hE)
  have hk0 : (0 : Int) ≤ k := by omega
  have hk23 : (k : Int) < 23 := by omega
  have hkn : (k : Int).toNat = k := by omega
  clear he hbox hbox0 hres hl hI hE hA
  unfold zeros8 at hW
  go_enter Tryd.func23, Tryd.ntmps23
  go_wp2_with fail
  refine hCK.out.mono ?_
  rintro e' w2 ⟨rfl, b2⟩
  have hb2 := hbW.trans (b2.mono hbW.size)
  have HM := Lib.hid (HM.out.below' b2)
  have HRB := Lib.hid (HRB.out.below' b2)
  have HA := Lib.hid (HA.out.below b2)
  have hz2 := b2.size
  obtain ⟨c0, c1, c2, c3, c4, c5, c6, c7⟩ := boxFactsW HM.out
  have hx : ((nl : Int) != 8) = true := by simp; omega
  obtain ⟨⟨g0, g1, g2, g3, g4, g5, g6, g7⟩, f0, f1, f2, f3, f4, f5, f6, f7⟩ := blkFacts HRB.out
  have HX := Lib.hid (renLen HE.out (by rw [HL.out]; exact hn8))
  go_wp2_with fail
  refine bodyPost_ret ((stored8 HRB.out).res2 rfl _ rfl Tryd.underlying44 rfl infoInst) rfl ?_
  rw [← HIE.out.1, ← HIE.out.2, HX.out.1, HX.out.2]
  exact ⟨rfl, below8 hb2 (Nat.le_succ _)⟩

theorem rRenBad (op a b c obj n fn ord : Int) (he : (I8.mk8 op a b c obj n fn ord).chk ≠ 0) (l : List Int) (nl : Nat) (A : Option Addr) (cp : Nat) (w : World) (I : I8) (E : Int) (hI : (I8.mk8 op a b c obj n fn ord).renI l = I) (hE : (I8.mk8 op a b c obj n fn ord).renE l = E) :
    Calls Tryd.prog 23 #[(I8.mk8 op a b c obj n fn ord).val, .slice A nl cp] w fun e w' => e = .returned (.tuple #[I.val, .int .i64 E]) ∧ Below w.heap.size w w' := by
  obtain ⟨W0, hW0, hbW0, hzW0, hbox0⟩ := boxNew w op a b c obj n fn ord
  obtain ⟨W, hW⟩ : ∃ W, W0.alloc (.cells zeros8 44) = W := ⟨_, rfl⟩
  have hbW1 : Below W0.heap.size W0 W := by rw [← hW]; exact belowAlloc W0 _
  have hbW : Below w.heap.size w W := hbW0.trans (hbW1.mono hbW0.size)
  have hbox := hbox0.below' hbW1
  have hres : Blk W (w.heap.size + 1) 44 zeros8 := by rw [← hW, ← hzW0]; exact Blk.new W0 _ _
  obtain ⟨c0, c1, c2, c3, c4, c5, c6, c7⟩ := boxFactsW hbox
  obtain ⟨x, hx⟩ : ∃ x, (I8.mk8 op a b c obj n fn ord).chk = x := ⟨_, rfl⟩
  have hCK := Lib.hid (rCheckA op a b c obj n fn ord x hx W)
  have HRB := Lib.hid hres
  have HX := Lib.hid (renBad (l := l) he)
  have hxx : (x != 0) = true := by rw [← hx]; simpa using he
  have HIE := Lib.hid (And.intro hI (And.intro hE hx))
  have hv : (I8.mk8 op a b c obj n fn ord).val = .agg #[.int .i64 op, .int .i64 a, .int .i64 b, .int .i64 c, .int .i64 obj, .int .i64 n, .int .i64 fn, .int .i64 ord] := rfl
  rw [hv]
  clear he hbox hbox0 hres hI hE hx hv
  unfold zeros8 at hW
  go_enter Tryd.func23, Tryd.ntmps23
  go_wp2_with fail
  refine hCK.out.mono ?_
  rintro e' w2 ⟨rfl, b2⟩
  have hb2 := hbW.trans (b2.mono hbW.size)
  have HRB := Lib.hid (HRB.out.below' b2)
  obtain ⟨⟨g0, g1, g2, g3, g4, g5, g6, g7⟩, f0, f1, f2, f3, f4, f5, f6, f7⟩ := blkFacts HRB.out
  go_wp2_with fail
  refine bodyPost_ret ((stored8 HRB.out).res2 rfl _ rfl Tryd.underlying44 rfl infoInst) rfl ?_
  rw [← HIE.out.1, ← HIE.out.2.1, HX.out.1, HX.out.2, HIE.out.2.2]
  exact ⟨rfl, below8 hb2 (Nat.le_succ _)⟩

set_option maxHeartbeats 1000000 in
theorem rRen8 (k : Nat) (h1 : 1 ≤ k) (h2 : k ≤ 22) (a b c : Nat) (obj n fn ord : Int) (he : (I8.mk8 k a b c obj n fn ord).chk = 0) (ha : a < 8) (hb : b < 8) (hc : c < 8) (l : List Int) (hl : l.length = 8) (cp : Nat) (w : World) (bb off : Nat) (hbb : bb < w.heap.size) (hA : ∀ j (hj : j < l.length), w.cell? ⟨bb, off + j, none⟩ = some (.int .i64 l[j])) (I : I8) (E : Int) (hI : (I8.mk8 k a b c obj n fn ord).renI l = I) (hE : (I8.mk8 k a b c obj n fn ord).renE l = E) :
    Calls Tryd.prog 23 #[.agg #[.int .i64 k, .int .i64 a, .int .i64 b, .int .i64 c, .int .i64 obj, .int .i64 n, .int .i64 fn, .int .i64 ord], .slice (some ⟨bb, off, none⟩) 8 cp] w fun e w' => e = .returned (.tuple #[I.val, .int .i64 E]) ∧ Below w.heap.size w w' := by
  obtain ⟨W0, hW0, hbW0, hzW0, hbox0⟩ := boxNew w k a b c obj n fn ord
  obtain ⟨W, hW⟩ : ∃ W, W0.alloc (.cells zeros8 44) = W := ⟨_, rfl⟩
  have hbW1 : Below W0.heap.size W0 W := by rw [← hW]; exact belowAlloc W0 _
  have hbW : Below w.heap.size w W := hbW0.trans (hbW1.mono hbW0.size)
  have hbox := hbox0.below' hbW1
  have hres : Blk W (w.heap.size + 1) 44 zeros8 := by rw [← hW, ← hzW0]; exact Blk.new W0 _ _
  have hzW : W.heap.size = w.heap.size + 2 := by rw [← hW]; simp; omega
  obtain ⟨c0, c1, c2, c3, c4, c5, c6, c7⟩ := boxFactsW hbox
  have hCK := Lib.hid (rCheckA k a b c obj n fn ord 0 he W)
  have HM := Lib.hid hbox
  have HRB := Lib.hid hres
  have HL := Lib.hid hl
  have HA0 := Lib.hid hA
  have HE := Lib.hid he
  have HIE := Lib.hid (And.intro hI hE)
  have hk0 : (0 : Int) ≤ k := by omega
  have hk23 : (k : Int) < 23 := by omega
  have hkn : (k : Int).toNat = k := by omega
  clear he hbox hbox0 hres hl hI hE hA
  unfold zeros8 at hW
  go_enter Tryd.func23, Tryd.ntmps23
  go_wp2_with fail
  refine hCK.out.mono ?_
  rintro e' w2 ⟨rfl, b2⟩
  have hb2 := hbW.trans (b2.mono hbW.size)
  have HM := Lib.hid (HM.out.below' b2)
  have HRB := Lib.hid (HRB.out.below' b2)
  have HA : Hid (∀ j (hj : j < l.length), w2.cell? ⟨bb, off + j, none⟩ = some (.int .i64 l[j])) := Lib.hid fun j hj => (hb2.cell hbb).trans (HA0.out j hj)
  have hz2 := b2.size
  obtain ⟨c0, c1, c2, c3, c4, c5, c6, c7⟩ := boxFactsW HM.out
  have hx : (((8 : Nat) : Int) != 8) = false := by decide
  obtain ⟨⟨g0, g1, g2, g3, g4, g5, g6, g7⟩, f0, f1, f2, f3, f4, f5, f6, f7⟩ := blkFacts HRB.out
  go_wp2_with fail
  go_loopw [5, 7] (fun s i wr => ∃ j : Nat, j ≤ 8 ∧ s = .int .i64 0 ∧ i = .int .i64 j ∧ Hid (∀ x (hx : x < l.length), x < j → rgOk l[x] = true) ∧ wr = w2) (fun _ i _ => 8 - (intOf i).toNat)
  case atStart => exact ⟨0, Nat.zero_le _, rfl, rfl, Lib.hid (fun x _ hx => by omega), rfl⟩
  case round =>
    obtain ⟨j, hj, rfl, rfl, HD, rfl⟩ := hrel
    by_cases hlt : j < 8
    · have hjl : j < l.length := by rw [HL.out]; exact hlt
      have hcell := HA.out j hjl
      rcases hq : rgOk l[j] with _ | _
      · have HX := Lib.hid (renReg HE.out HL.out hjl hq)
        have HQ := Lib.hid hq
        clear hq
        generalize l[j] = x at hcell HQ
        go_wp2_with (go_at_call 53; refine (rIsRegN _ _ HQ.out _).mono ?_; rintro e wz ⟨rfl, rfl⟩)
        refine bodyPost_ret ((stored8 HRB.out).res2 rfl _ rfl Tryd.underlying44 rfl infoInst) rfl ?_
        rw [← HIE.out.1, ← HIE.out.2, HX.out.1, HX.out.2]
        exact ⟨rfl, below8 hb2 (Nat.le_succ _)⟩
      · have HS : Hid (∀ x (hx : x < l.length), x < j + 1 → rgOk l[x] = true) := Lib.hid fun x hx hxj => by
          by_cases e : x = j
          · subst e; exact hq
          · exact HD.out x hx (by omega)
        have HQ := Lib.hid hq
        clear hq
        generalize l[j] = x at hcell HQ
        go_wp2_with (go_at_call 53; refine (rIsRegN _ _ HQ.out _).mono ?_; rintro e wz ⟨rfl, rfl⟩)
        go_roundw
        case rel => exact ⟨j + 1, by omega, rfl, by go_num, HS, by trivial⟩
        case measure => simp [intOf]; omega
    · have HX := Lib.hid (renOk HE.out HL.out (fun x hx => by
        obtain ⟨i, hi, rfl⟩ := List.getElem_of_mem hx
        exact HD.out i hi (by have := HL.out; omega)))
      have HRE := Lib.hid (show I = (I8.mk8 k a b c obj n fn ord).ren (mpL l) ∧ E = 0 by rw [← HIE.out.1, ← HIE.out.2, HX.out.1, HX.out.2]; exact ⟨rfl, rfl⟩)
      have xa := HA.out a (by rw [HL.out]; exact ha)
      have xb := HA.out b (by rw [HL.out]; exact hb)
      have xc := HA.out c (by rw [HL.out]; exact hc)
      have HXV := Lib.hid (show l[a]'(by rw [HL.out]; exact ha) = mpL l a ∧ l[b]'(by rw [HL.out]; exact hb) = mpL l b ∧ l[c]'(by rw [HL.out]; exact hc) = mpL l c by
        exact ⟨mpAt _ _, mpAt _ _, mpAt _ _⟩)
      rw [HXV.out.1] at xa
      rw [HXV.out.2.1] at xb
      rw [HXV.out.2.2] at xc
      generalize hma : mpL l a = ma at xa
      generalize hmb : mpL l b = mb at xb
      generalize hmc : mpL l c = mc at xc
      have HMM := Lib.hid (And.intro hma (And.intro hmb hmc))
      clear hma hmb hmc HXV HX
      obtain ⟨q0, hq0⟩ : ∃ u, us k 0 = u := ⟨_, rfl⟩
      obtain ⟨q1, hq1⟩ : ∃ u, us k 1 = u := ⟨_, rfl⟩
      obtain ⟨q2, hq2⟩ : ∃ u, us k 2 = u := ⟨_, rfl⟩
      have HA0 := Lib.hid (rHasN k 0 h1 h2 (by omega) 65 rfl q0 hq0)
      have HA1 := Lib.hid (rHasN k 1 h1 h2 (by omega) 66 rfl q1 hq1)
      have HA2 := Lib.hid (rHasN k 2 h1 h2 (by omega) 67 rfl q2 hq2)
      have HREN : Hid (I = ⟨k, if q0 then ma else a, if q1 then mb else b, if q2 then mc else c, obj, n, fn, ord⟩) := Lib.hid (by
        rw [HRE.out.1, ← HMM.out.1, ← HMM.out.2.1, ← HMM.out.2.2, ← hq0, ← hq1, ← hq2]; rfl)
      clear hq0 hq1 hq2
      have hz1 : w.heap.size + 2 ≤ wr.heap.size := by omega
      obtain ⟨V, hV⟩ : ∃ V, wr.alloc (.cells #[.int .i64 k, .int .i64 a, .int .i64 b, .int .i64 c, .int .i64 obj, .int .i64 n, .int .i64 fn, .int .i64 ord] 44) = V := ⟨_, rfl⟩
      have hbV : Below wr.heap.size wr V := by rw [← hV]; exact belowAlloc wr _
      have hub := Nat.lt_of_lt_of_le hbb (show w.heap.size ≤ wr.heap.size by omega)
      obtain ⟨B, hB⟩ : ∃ B, wr.heap.size = B := ⟨_, rfl⟩
      have HS := Lib.hid (show RSt w B bb (off + a) (off + b) (off + c) k a b c obj n fn ord ma mb mc a b c V from ⟨HM.out.below' hbV, HRB.out.below' hbV, by rw [← hV, ← hB]; exact Blk.new wr _ _, (hbV.cell hub).trans xa, (hbV.cell hub).trans xb, (hbV.cell hub).trans xc, hb2.trans (hbV.mono hb2.size), hbb, by omega⟩)
      obtain ⟨⟨⟨c0, c1, c2, c3, c4, c5, c6, c7⟩, -⟩, ⟨⟨o0, o1, o2, o3, o4, o5, o6, o7⟩, e0, e1, e2, e3, e4, e5, e6, e7⟩, ⟨⟨r0, r1, r2, r3, r4, r5, r6, r7⟩, s0, s1, s2, s3, s4, s5, s6, s7⟩, xa, xb, xc⟩ := HS.out.facts
      clear g0 g1 g2 g3 g4 g5 g6 g7 f0 f1 f2 f3 f4 f5 f6 f7
      have hlt2 : ¬ j < 8 := hlt
      go_wp2_with fail
      refine (HA0.out _).mono ?_
      rintro e' wv0 ⟨rfl, bv0⟩
      have HS := Lib.hid (HS.out.below bv0)
      obtain ⟨⟨⟨c0, c1, c2, c3, c4, c5, c6, c7⟩, -⟩, ⟨⟨o0, o1, o2, o3, o4, o5, o6, o7⟩, e0, e1, e2, e3, e4, e5, e6, e7⟩, ⟨⟨r0, r1, r2, r3, r4, r5, r6, r7⟩, s0, s1, s2, s3, s4, s5, s6, s7⟩, xa, xb, xc⟩ := HS.out.facts
      cases q0 with
      | false =>
        go_wp2_with fail
        refine (HA1.out _).mono ?_
        rintro e' wv1 ⟨rfl, bv1⟩
        have HS := Lib.hid (HS.out.below bv1)
        obtain ⟨⟨⟨c0, c1, c2, c3, c4, c5, c6, c7⟩, -⟩, ⟨⟨o0, o1, o2, o3, o4, o5, o6, o7⟩, e0, e1, e2, e3, e4, e5, e6, e7⟩, ⟨⟨r0, r1, r2, r3, r4, r5, r6, r7⟩, s0, s1, s2, s3, s4, s5, s6, s7⟩, xa, xb, xc⟩ := HS.out.facts
        cases q1 with
        | false =>
          go_wp2_with fail
          refine (HA2.out _).mono ?_
          rintro e' wv2 ⟨rfl, bv2⟩
          have HS := Lib.hid (HS.out.below bv2)
          obtain ⟨⟨⟨c0, c1, c2, c3, c4, c5, c6, c7⟩, -⟩, ⟨⟨o0, o1, o2, o3, o4, o5, o6, o7⟩, e0, e1, e2, e3, e4, e5, e6, e7⟩, ⟨⟨r0, r1, r2, r3, r4, r5, r6, r7⟩, s0, s1, s2, s3, s4, s5, s6, s7⟩, xa, xb, xc⟩ := HS.out.facts
          cases q2 with
          | false =>
            go_wp2_with fail
            refine bodyPost_ret ((stored8 HS.out.r).res2 rfl _ rfl Tryd.underlying44 rfl infoInst) rfl ?_
            rw [HREN.out, HRE.out.2]
            exact ⟨rfl, below8 HS.out.low (Nat.le_succ _)⟩
          | true =>
            have HS := Lib.hid (HS.out.setC)
            go_wp2_with fail
            refine bodyPost_ret ((stored8 HS.out.r).res2 rfl _ rfl Tryd.underlying44 rfl infoInst) rfl ?_
            rw [HREN.out, HRE.out.2]
            exact ⟨rfl, below8 HS.out.low (Nat.le_succ _)⟩
        | true =>
          have HS := Lib.hid (HS.out.setB)
          go_wp2_with fail
          refine (HA2.out _).mono ?_
          rintro e' wv2 ⟨rfl, bv2⟩
          have HS := Lib.hid (HS.out.below bv2)
          obtain ⟨⟨⟨c0, c1, c2, c3, c4, c5, c6, c7⟩, -⟩, ⟨⟨o0, o1, o2, o3, o4, o5, o6, o7⟩, e0, e1, e2, e3, e4, e5, e6, e7⟩, ⟨⟨r0, r1, r2, r3, r4, r5, r6, r7⟩, s0, s1, s2, s3, s4, s5, s6, s7⟩, xa, xb, xc⟩ := HS.out.facts
          cases q2 with
          | false =>
            go_wp2_with fail
            refine bodyPost_ret ((stored8 HS.out.r).res2 rfl _ rfl Tryd.underlying44 rfl infoInst) rfl ?_
            rw [HREN.out, HRE.out.2]
            exact ⟨rfl, below8 HS.out.low (Nat.le_succ _)⟩
          | true =>
            have HS := Lib.hid (HS.out.setC)
            go_wp2_with fail
            refine bodyPost_ret ((stored8 HS.out.r).res2 rfl _ rfl Tryd.underlying44 rfl infoInst) rfl ?_
            rw [HREN.out, HRE.out.2]
            exact ⟨rfl, below8 HS.out.low (Nat.le_succ _)⟩
      | true =>
        have HS := Lib.hid (HS.out.setA)
        go_wp2_with fail
        refine (HA1.out _).mono ?_
        rintro e' wv1 ⟨rfl, bv1⟩
        have HS := Lib.hid (HS.out.below bv1)
        obtain ⟨⟨⟨c0, c1, c2, c3, c4, c5, c6, c7⟩, -⟩, ⟨⟨o0, o1, o2, o3, o4, o5, o6, o7⟩, e0, e1, e2, e3, e4, e5, e6, e7⟩, ⟨⟨r0, r1, r2, r3, r4, r5, r6, r7⟩, s0, s1, s2, s3, s4, s5, s6, s7⟩, xa, xb, xc⟩ := HS.out.facts
        cases q1 with
        | false =>
          go_wp2_with fail
          refine (HA2.out _).mono ?_
          rintro e' wv2 ⟨rfl, bv2⟩
          have HS := Lib.hid (HS.out.below bv2)
          obtain ⟨⟨⟨c0, c1, c2, c3, c4, c5, c6, c7⟩, -⟩, ⟨⟨o0, o1, o2, o3, o4, o5, o6, o7⟩, e0, e1, e2, e3, e4, e5, e6, e7⟩, ⟨⟨r0, r1, r2, r3, r4, r5, r6, r7⟩, s0, s1, s2, s3, s4, s5, s6, s7⟩, xa, xb, xc⟩ := HS.out.facts
          cases q2 with
          | false =>
            go_wp2_with fail
            refine bodyPost_ret ((stored8 HS.out.r).res2 rfl _ rfl Tryd.underlying44 rfl infoInst) rfl ?_
            rw [HREN.out, HRE.out.2]
            exact ⟨rfl, below8 HS.out.low (Nat.le_succ _)⟩
          | true =>
            have HS := Lib.hid (HS.out.setC)
            go_wp2_with fail
            refine bodyPost_ret ((stored8 HS.out.r).res2 rfl _ rfl Tryd.underlying44 rfl infoInst) rfl ?_
            rw [HREN.out, HRE.out.2]
            exact ⟨rfl, below8 HS.out.low (Nat.le_succ _)⟩
        | true =>
          have HS := Lib.hid (HS.out.setB)
          go_wp2_with fail
          refine (HA2.out _).mono ?_
          rintro e' wv2 ⟨rfl, bv2⟩
          have HS := Lib.hid (HS.out.below bv2)
          obtain ⟨⟨⟨c0, c1, c2, c3, c4, c5, c6, c7⟩, -⟩, ⟨⟨o0, o1, o2, o3, o4, o5, o6, o7⟩, e0, e1, e2, e3, e4, e5, e6, e7⟩, ⟨⟨r0, r1, r2, r3, r4, r5, r6, r7⟩, s0, s1, s2, s3, s4, s5, s6, s7⟩, xa, xb, xc⟩ := HS.out.facts
          cases q2 with
          | false =>
            go_wp2_with fail
            refine bodyPost_ret ((stored8 HS.out.r).res2 rfl _ rfl Tryd.underlying44 rfl infoInst) rfl ?_
            rw [HREN.out, HRE.out.2]
            exact ⟨rfl, below8 HS.out.low (Nat.le_succ _)⟩
          | true =>
            have HS := Lib.hid (HS.out.setC)
            go_wp2_with fail
            refine bodyPost_ret ((stored8 HS.out.r).res2 rfl _ rfl Tryd.underlying44 rfl infoInst) rfl ?_
            rw [HREN.out, HRE.out.2]
            exact ⟨rfl, below8 HS.out.low (Nat.le_succ _)⟩

/-- Rename: the renamed instruction and OK, or the error. -/
theorem rRen (i : I8) (l : List Int) (n : Nat) (hn : l.length = n) (I : I8) (E : Int) (hI : i.renI l = I) (hE : i.renE l = E) (A : Option Addr) (cp : Nat) (w : World) (hA : Rd w A cp l) :
    Calls Tryd.prog 23 #[i.val, .slice A n cp] w fun e w' => e = .returned (.tuple #[I.val, .int .i64 E]) ∧ Below w.heap.size w w' := by
  obtain ⟨op, a, b, c, obj, nn, fn, ord⟩ := i
  by_cases h : (I8.mk8 op a b c obj nn fn ord).chk = 0
  · have hg := I8.good h
    obtain ⟨k, rfl⟩ : ∃ k : Nat, op = k := ⟨op.toNat, by have := hg.op.1; simp only at this; omega⟩
    obtain ⟨a, rfl⟩ : ∃ k : Nat, a = k := ⟨a.toNat, by have := hg.a.1; simp only at this; omega⟩
    obtain ⟨b, rfl⟩ : ∃ k : Nat, b = k := ⟨b.toNat, by have := hg.b.1; simp only at this; omega⟩
    obtain ⟨c, rfl⟩ : ∃ k : Nat, c = k := ⟨c.toNat, by have := hg.c.1; simp only at this; omega⟩
    have h1 := hg.op
    have h2 := hg.a
    have h3 := hg.b
    have h4 := hg.c
    simp only at h1 h2 h3 h4
    by_cases hn8 : n = 8
    · subst hn8
      obtain ⟨bb, off, rfl, hbb, hf⟩ := rdFlat hA (by omega)
      exact rRen8 k (by omega) (by omega) a b c obj nn fn ord h (by omega) (by omega) (by omega) l hn cp w bb off hbb hf I E hI hE
    · exact rRenLen k (by omega) (by omega) a b c obj nn fn ord h l n hn8 hn A cp w hA I E hI hE
  · exact rRenBad op a b c obj nn fn ord h l n A cp w I E hI hE
end Go.Proofs.YtkanamdfjegcbaaDoor

namespace Go.Proofs.YtkanamdfjegcbaaDoor
open Go Go.RowKit

/-- The tables of the operations and of the names of the functions are laid. -/
structure Laid7 (w : World) : Prop where
  ins : InsT w
  nm : Nm w
theorem Laid7.below {W X : World} {B : Nat} (h : Laid7 W) (hb : Below B W X) (hB : W.heap.size ≤ B := by exact Nat.le_refl _) : Laid7 X := ⟨h.ins.below hb hB, h.nm.below hb hB⟩
theorem rRenA (op a b c obj n fn ord : Int) (l : List Int) (m : Nat) (hm : l.length = m) (op' a' b' c' obj' n' fn' ord' E : Int) (hI : (I8.mk8 op a b c obj n fn ord).renI l = ⟨op', a', b', c', obj', n', fn', ord'⟩) (hE : (I8.mk8 op a b c obj n fn ord).renE l = E) (A : Option Addr) (cp : Nat) (w : World) (hA : Rd w A cp l) :
    Calls Tryd.prog 23 #[.agg #[.int .i64 op, .int .i64 a, .int .i64 b, .int .i64 c, .int .i64 obj, .int .i64 n, .int .i64 fn, .int .i64 ord], .slice A m cp] w fun e w' => e = .returned (.tuple #[.agg #[.int .i64 op', .int .i64 a', .int .i64 b', .int .i64 c', .int .i64 obj', .int .i64 n', .int .i64 fn', .int .i64 ord'], .int .i64 E]) ∧ Below w.heap.size w w' := rRen _ l m hm _ E hI hE A cp w hA

end Go.Proofs.YtkanamdfjegcbaaDoor
