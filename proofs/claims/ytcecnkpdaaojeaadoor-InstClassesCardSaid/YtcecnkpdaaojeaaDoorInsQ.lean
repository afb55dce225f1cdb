/-
  The contract of the specification's Rename: the renamed instruction or the error.
-/
import Derived.Test.YtcecnkpdaaojeaaDoorInsR
namespace Go.Proofs.YtcecnkpdaaojeaaDoor
open Go Go.RowKit

/-- What lies in memory while the specification's Rename fills its result: the instruction, the result's place, the copy, the mapping. -/
structure RSt (w : World) (B bb pa pb pc : Nat) (k a b c obj n fn ord ma mb mc a' b' c' : Int) (W : World) : Prop where
  i : Blk W w.heap.size 51 #[.int .i64 k, .int .i64 a, .int .i64 b, .int .i64 c, .int .i64 obj, .int .i64 n, .int .i64 fn, .int .i64 ord]
  r : Blk W (w.heap.size + 1) 51 zeros8
  o : Blk W B 51 #[.int .i64 k, .int .i64 a', .int .i64 b', .int .i64 c', .int .i64 obj, .int .i64 n, .int .i64 fn, .int .i64 ord]
  xa : W.cell? ⟨bb, pa, none⟩ = some (.int .i64 ma)
  xb : W.cell? ⟨bb, pb, none⟩ = some (.int .i64 mb)
  xc : W.cell? ⟨bb, pc, none⟩ = some (.int .i64 mc)
  low : Below w.heap.size w W
  hb : bb < w.heap.size
  hB : w.heap.size + 1 < B
section
variable {w : World} {B bb pa pb pc : Nat} {k a b c obj n fn ord ma mb mc a' b' c' : Int} {W : World} (h : RSt w B bb pa pb pc k a b c obj n fn ord ma mb mc a' b' c' W)
include h
theorem RSt.below {X : World} (hX : Below W.heap.size W X) : RSt w B bb pa pb pc k a b c obj n fn ord ma mb mc a' b' c' X :=
  have hl := Nat.lt_of_lt_of_le h.hb h.low.size
  ⟨h.i.below' hX, h.r.below' hX, h.o.below' hX, (hX.cell hl).trans h.xa, (hX.cell hl).trans h.xb, (hX.cell hl).trans h.xc, h.low.trans (hX.mono h.low.size), h.hb, h.hB⟩
theorem RSt.cellO (p j : Nat) (v : Value) : (W.setCell ⟨B, j, none⟩ v).cell? ⟨bb, p, none⟩ = W.cell? ⟨bb, p, none⟩ := by
  have hne : bb ≠ B := by have := h.hb; have := h.hB; omega
  simp only [World.cell?, heap_setCell_other W ⟨B, j, none⟩ bb v hne]
theorem RSt.put (j : Nat) (v : Value) {x y z : Int} (e : Blk (W.setCell ⟨B, j, none⟩ v) B 51 #[.int .i64 k, .int .i64 x, .int .i64 y, .int .i64 z, .int .i64 obj, .int .i64 n, .int .i64 fn, .int .i64 ord]) : RSt w B bb pa pb pc k a b c obj n fn ord ma mb mc x y z (W.setCell ⟨B, j, none⟩ v) :=
  ⟨h.i.other (by have := h.hB; omega) j v, h.r.other (by have := h.hB; omega) j v, e, (h.cellO _ _ _).trans h.xa, (h.cellO _ _ _).trans h.xb, (h.cellO _ _ _).trans h.xc, belowSt h.low _ _ _ (by have := h.hB; omega), h.hb, h.hB⟩
theorem RSt.setA : RSt w B bb pa pb pc k a b c obj n fn ord ma mb mc ma b' c' (W.setCell ⟨B, 1, none⟩ (.int .i64 ma)) := h.put 1 _ (by simpa using h.o.set 1 (.int .i64 ma))
theorem RSt.setB : RSt w B bb pa pb pc k a b c obj n fn ord ma mb mc a' mb c' (W.setCell ⟨B, 2, none⟩ (.int .i64 mb)) := h.put 2 _ (by simpa using h.o.set 2 (.int .i64 mb))
theorem RSt.setC : RSt w B bb pa pb pc k a b c obj n fn ord ma mb mc a' b' mc (W.setCell ⟨B, 3, none⟩ (.int .i64 mc)) := h.put 3 _ (by simpa using h.o.set 3 (.int .i64 mc))
theorem RSt.facts : ((W.cell? ⟨w.heap.size, 0, none⟩ = some (.int .i64 k) ∧ W.cell? ⟨w.heap.size, 1, none⟩ = some (.int .i64 a) ∧ W.cell? ⟨w.heap.size, 2, none⟩ = some (.int .i64 b) ∧ W.cell? ⟨w.heap.size, 3, none⟩ = some (.int .i64 c) ∧ W.cell? ⟨w.heap.size, 4, none⟩ = some (.int .i64 obj) ∧ W.cell? ⟨w.heap.size, 5, none⟩ = some (.int .i64 n) ∧ W.cell? ⟨w.heap.size, 6, none⟩ = some (.int .i64 fn) ∧ W.cell? ⟨w.heap.size, 7, none⟩ = some (.int .i64 ord)) ∧ (W.frozen? ⟨w.heap.size, 0, none⟩ = false ∧ W.frozen? ⟨w.heap.size, 1, none⟩ = false ∧ W.frozen? ⟨w.heap.size, 2, none⟩ = false ∧ W.frozen? ⟨w.heap.size, 3, none⟩ = false ∧ W.frozen? ⟨w.heap.size, 4, none⟩ = false ∧ W.frozen? ⟨w.heap.size, 5, none⟩ = false ∧ W.frozen? ⟨w.heap.size, 6, none⟩ = false ∧ W.frozen? ⟨w.heap.size, 7, none⟩ = false)) ∧ ((W.cell? ⟨B, 0, none⟩ = some (.int .i64 k) ∧ W.cell? ⟨B, 1, none⟩ = some (.int .i64 a') ∧ W.cell? ⟨B, 2, none⟩ = some (.int .i64 b') ∧ W.cell? ⟨B, 3, none⟩ = some (.int .i64 c') ∧ W.cell? ⟨B, 4, none⟩ = some (.int .i64 obj) ∧ W.cell? ⟨B, 5, none⟩ = some (.int .i64 n) ∧ W.cell? ⟨B, 6, none⟩ = some (.int .i64 fn) ∧ W.cell? ⟨B, 7, none⟩ = some (.int .i64 ord)) ∧ (W.frozen? ⟨B, 0, none⟩ = false ∧ W.frozen? ⟨B, 1, none⟩ = false ∧ W.frozen? ⟨B, 2, none⟩ = false ∧ W.frozen? ⟨B, 3, none⟩ = false ∧ W.frozen? ⟨B, 4, none⟩ = false ∧ W.frozen? ⟨B, 5, none⟩ = false ∧ W.frozen? ⟨B, 6, none⟩ = false ∧ W.frozen? ⟨B, 7, none⟩ = false)) ∧ ((W.cell? ⟨(w.heap.size + 1), 0, none⟩ = some (.int .i64 0) ∧ W.cell? ⟨(w.heap.size + 1), 1, none⟩ = some (.int .i64 0) ∧ W.cell? ⟨(w.heap.size + 1), 2, none⟩ = some (.int .i64 0) ∧ W.cell? ⟨(w.heap.size + 1), 3, none⟩ = some (.int .i64 0) ∧ W.cell? ⟨(w.heap.size + 1), 4, none⟩ = some (.int .i64 0) ∧ W.cell? ⟨(w.heap.size + 1), 5, none⟩ = some (.int .i64 0) ∧ W.cell? ⟨(w.heap.size + 1), 6, none⟩ = some (.int .i64 0) ∧ W.cell? ⟨(w.heap.size + 1), 7, none⟩ = some (.int .i64 0)) ∧ (W.frozen? ⟨(w.heap.size + 1), 0, none⟩ = false ∧ W.frozen? ⟨(w.heap.size + 1), 1, none⟩ = false ∧ W.frozen? ⟨(w.heap.size + 1), 2, none⟩ = false ∧ W.frozen? ⟨(w.heap.size + 1), 3, none⟩ = false ∧ W.frozen? ⟨(w.heap.size + 1), 4, none⟩ = false ∧ W.frozen? ⟨(w.heap.size + 1), 5, none⟩ = false ∧ W.frozen? ⟨(w.heap.size + 1), 6, none⟩ = false ∧ W.frozen? ⟨(w.heap.size + 1), 7, none⟩ = false)) ∧ W.cell? ⟨bb, pa, none⟩ = some (.int .i64 ma) ∧ W.cell? ⟨bb, pb, none⟩ = some (.int .i64 mb) ∧ W.cell? ⟨bb, pc, none⟩ = some (.int .i64 mc) :=
  ⟨blkFacts h.i, blkFacts h.o, blkFacts h.r, h.xa, h.xb, h.xc⟩
end

set_option maxHeartbeats 1000000 in
theorem rRenLen (k : Nat) (h1 : 1 ≤ k) (h2 : k ≤ 22) (a b c : Nat) (obj n fn ord : Int) (he : (I8.mk8 k a b c obj n fn ord).chk = 0) (l : List Int) (nl : Nat) (hn8 : nl ≠ 8) (hl : l.length = nl) (A : Option Addr) (cp : Nat) (w : World) (hA : Rd w A cp l) (I : I8) (E : Int) (hI : (I8.mk8 k a b c obj n fn ord).renI l = I) (hE : (I8.mk8 k a b c obj n fn ord).renE l = E) :
    Calls Tryd.prog 56 #[.agg #[.int .i64 k, .int .i64 a, .int .i64 b, .int .i64 c, .int .i64 obj, .int .i64 n, .int .i64 fn, .int .i64 ord], .slice A nl cp] w fun e w' => e = .returned (.tuple #[I.val, .int .i64 E]) ∧ Below w.heap.size w w' := by
  have hla := hA.le
  have hca := hA.max
  rw [hl] at hla
  unfold maxLen at hca
  obtain ⟨W0, hW0, hbW0, hzW0, hbox0⟩ := boxNew w k a b c obj n fn ord
  obtain ⟨W, hW⟩ : ∃ W, W0.alloc (.cells zeros8 51) = W := ⟨_, rfl⟩
  have hbW1 : Below W0.heap.size W0 W := by rw [← hW]; exact belowAlloc W0 _
  have hbW : Below w.heap.size w W := hbW0.trans (hbW1.mono hbW0.size)
  have hbox := hbox0.below' hbW1
  have hres : Blk W (w.heap.size + 1) 51 zeros8 := by rw [← hW, ← hzW0]; exact Blk.new W0 _ _
  have hzW : W.heap.size = w.heap.size + 2 := by rw [← hW]; simp; omega
  obtain ⟨c0, c1, c2, c3, c4, c5, c6, c7⟩ := boxFactsW hbox
  have hCK := Lib.hid (rCheckA k a b c obj n fn ord 0 he W)
  have HM := Lib.hid hbox
  have HRB := Lib.hid hres
  have HA := Lib.hid (hA.below hbW)
  have HL := Lib.hid hl
  have HE := Lib.hid he
  have HIE := Lib.hid (And.intro hI hE)
  have hk0 : (0 : Int) ≤ k := by omega
  have hk23 : (k : Int) < 23 := by omega
  have hkn : (k : Int).toNat = k := by omega
  clear he hbox hbox0 hres hl hI hE hA
  unfold zeros8 at hW
  go_enter Tryd.func56, Tryd.ntmps56
  go_wp2_with fail
  refine hCK.out.mono ?_
  rintro e' w2 ⟨rfl, b2⟩
  have hb2 := hbW.trans (b2.mono hbW.size)
  have HM := Lib.hid (HM.out.below' b2)
  have HRB := Lib.hid (HRB.out.below' b2)
  have HA := Lib.hid (HA.out.below b2)
  have hz2 := b2.size
  obtain ⟨c0, c1, c2, c3, c4, c5, c6, c7⟩ := boxFactsW HM.out
  have hx : ((nl : Int) != 8) = true := by simp; omega
  obtain ⟨⟨g0, g1, g2, g3, g4, g5, g6, g7⟩, f0, f1, f2, f3, f4, f5, f6, f7⟩ := blkFacts HRB.out
  have HX := Lib.hid (renLen HE.out (by rw [HL.out]; exact hn8))
  go_wp2_with fail
  refine bodyPost_ret ((stored8 HRB.out).res2 rfl _ rfl Tryd.underlying51 rfl infoInst) rfl ?_
  rw [← HIE.out.1, ← HIE.out.2, HX.out.1, HX.out.2]
  exact ⟨rfl, below8 hb2 (Nat.le_succ _)⟩

theorem rRenBad (op a b c obj n fn ord : Int) (he : (I8.mk8 op a b c obj n fn ord).chk ≠ 0) (l : List Int) (nl : Nat) (A : Option Addr) (cp : Nat) (w : World) (I : I8) (E : Int) (hI : (I8.mk8 op a b c obj n fn ord).renI l = I) (hE : (I8.mk8 op a b c obj n fn ord).renE l = E) :
    Calls Tryd.prog 56 #[(I8.mk8 op a b c obj n fn ord).val, .slice A nl cp] w fun e w' => e = .returned (.tuple #[I.val, .int .i64 E]) ∧ Below w.heap.size w w' := by
  obtain ⟨W0, hW0, hbW0, hzW0, hbox0⟩ := boxNew w op a b c obj n fn ord
  obtain ⟨W, hW⟩ : ∃ W, W0.alloc (.cells zeros8 51) = W := ⟨_, rfl⟩
  have hbW1 : Below W0.heap.size W0 W := by rw [← hW]; exact belowAlloc W0 _
  have hbW : Below w.heap.size w W := hbW0.trans (hbW1.mono hbW0.size)
  have hbox := hbox0.below' hbW1
  have hres : Blk W (w.heap.size + 1) 51 zeros8 := by rw [← hW, ← hzW0]; exact Blk.new W0 _ _
  obtain ⟨c0, c1, c2, c3, c4, c5, c6, c7⟩ := boxFactsW hbox
  obtain ⟨x, hx⟩ : ∃ x, (I8.mk8 op a b c obj n fn ord).chk = x := ⟨_, rfl⟩
  have hCK := Lib.hid (rCheckA op a b c obj n fn ord x hx W)
  have HRB := Lib.hid hres
  have HX := Lib.hid (renBad (l := l) he)
  have hxx : (x != 0) = true := by rw [← hx]; simpa using he
  have HIE := Lib.hid (And.intro hI (And.intro hE hx))
  have hv : (I8.mk8 op a b c obj n fn ord).val = .agg #[.int .i64 op, .int .i64 a, .int .i64 b, .int .i64 c, .int .i64 obj, .int .i64 n, .int .i64 fn, .int .i64 ord] := rfl
  rw [hv]
  clear he hbox hbox0 hres hI hE hx hv
  unfold zeros8 at hW
  go_enter Tryd.func56, Tryd.ntmps56
  go_wp2_with fail
  refine hCK.out.mono ?_
  rintro e' w2 ⟨rfl, b2⟩
  have hb2 := hbW.trans (b2.mono hbW.size)
  have HRB := Lib.hid (HRB.out.below' b2)
  obtain ⟨⟨g0, g1, g2, g3, g4, g5, g6, g7⟩, f0, f1, f2, f3, f4, f5, f6, f7⟩ := blkFacts HRB.out
  go_wp2_with fail
  refine bodyPost_ret ((stored8 HRB.out).res2 rfl _ rfl Tryd.underlying51 rfl infoInst) rfl ?_
  rw [← HIE.out.1, ← HIE.out.2.1, HX.out.1, HX.out.2, HIE.out.2.2]
  exact ⟨rfl, below8 hb2 (Nat.le_succ _)⟩

set_option maxHeartbeats 1000000 in
theorem rRen8 (k : Nat) (h1 : 1 ≤ k) (h2 : k ≤ 22) (a b c : Nat) (obj n fn ord : Int) (he : (I8.mk8 k a b c obj n fn ord).chk = 0) (ha : a < 8) (hb : b < 8) (hc : c < 8) (l : List Int) (hl : l.length = 8) (cp : Nat) (w : World) (bb off : Nat) (hbb : bb < w.heap.size) (hA : ∀ j (hj : j < l.length), w.cell? ⟨bb, off + j, none⟩ = some (.int .i64 l[j])) (I : I8) (E : Int) (hI : (I8.mk8 k a b c obj n fn ord).renI l = I) (hE : (I8.mk8 k a b c obj n fn ord).renE l = E) :
    Calls Tryd.prog 56 #[.agg #[.int .i64 k, .int .i64 a, .int .i64 b, .int .i64 c, .int .i64 obj, .int .i64 n, .int .i64 fn, .int .i64 ord], .slice (some ⟨bb, off, none⟩) 8 cp] w fun e w' => e = .returned (.tuple #[I.val, .int .i64 E]) ∧ Below w.heap.size w w' := by
  obtain ⟨W0, hW0, hbW0, hzW0, hbox0⟩ := boxNew w k a b c obj n fn ord
  obtain ⟨W, hW⟩ : ∃ W, W0.alloc (.cells zeros8 51) = W := ⟨_, rfl⟩
  have hbW1 : Below W0.heap.size W0 W := by rw [← hW]; exact belowAlloc W0 _
  have hbW : Below w.heap.size w W := hbW0.trans (hbW1.mono hbW0.size)
  have hbox := hbox0.below' hbW1
  have hres : Blk W (w.heap.size + 1) 51 zeros8 := by rw [← hW, ← hzW0]; exact Blk.new W0 _ _
  have hzW : W.heap.size = w.heap.size + 2 := by rw [← hW]; simp; omega
  obtain ⟨c0, c1, c2, c3, c4, c5, c6, c7⟩ := boxFactsW hbox
  have hCK := Lib.hid (rCheckA k a b c obj n fn ord 0 he W)
  have HM := Lib.hid hbox
  have HRB := Lib.hid hres
  have HL := Lib.hid hl
  have HA0 := Lib.hid hA
  have HE := Lib.hid he
  have HIE := Lib.hid (And.intro hI hE)
  have hk0 : (0 : Int) ≤ k := by omega
  have hk23 : (k : Int) < 23 := by omega
  have hkn : (k : Int).toNat = k := by omega
  clear he hbox hbox0 hres hl hI hE hA
  unfold zeros8 at hW
  go_enter Tryd.func56, Tryd.ntmps56
  go_wp2_with fail
  refine hCK.out.mono ?_
  rintro e' w2 ⟨rfl, b2⟩
  have hb2 := hbW.trans (b2.mono hbW.size)
  have HM := Lib.hid (HM.out.below' b2)
  have HRB := Lib.hid (HRB.out.below' b2)
  have HA : Hid (∀ j (hj : j < l.length), w2.cell? ⟨bb, off + j, none⟩ = some (.int .i64 l[j])) := Lib.hid fun j hj => (hb2.cell hbb).trans (HA0.out j hj)
  have hz2 := b2.size
  obtain ⟨c0, c1, c2, c3, c4, c5, c6, c7⟩ := boxFactsW HM.out
  have hx : (((8 : Nat) : Int) != 8) = false := by decide
  obtain ⟨⟨g0, g1, g2, g3, g4, g5, g6, g7⟩, f0, f1, f2, f3, f4, f5, f6, f7⟩ := blkFacts HRB.out
  go_wp2_with fail
  go_loopw [5, 7] (fun s i wr => ∃ j : Nat, j ≤ 8 ∧ s = .int .i64 0 ∧ i = .int .i64 j ∧ Hid (∀ x (hx : x < l.length), x < j → rgOk l[x] = true) ∧ wr = w2) (fun _ i _ => 8 - (intOf i).toNat)
  case atStart => exact ⟨0, Nat.zero_le _, rfl, rfl, Lib.hid (fun x _ hx => by omega), rfl⟩
  case round =>
    obtain ⟨j, hj, rfl, rfl, HD, rfl⟩ := hrel
    by_cases hlt : j < 8
    · have hjl : j < l.length := by rw [HL.out]; exact hlt
      have hcell := HA.out j hjl
      rcases hq : rgOk l[j] with _ | _
      · have HX := Lib.hid (renReg HE.out HL.out hjl hq)
        have HQ := Lib.hid hq
        clear hq
        generalize l[j] = x at hcell HQ
        go_wp2_with (go_at_call 86; refine (rIsRegN _ _ HQ.out _).mono ?_; rintro e wz ⟨rfl, rfl⟩)
        refine bodyPost_ret ((stored8 HRB.out).res2 rfl _ rfl Tryd.underlying51 rfl infoInst) rfl ?_
        rw [← HIE.out.1, ← HIE.out.2, HX.out.1, HX.out.2]
        exact ⟨rfl, below8 hb2 (Nat.le_succ _)⟩
      · have HS : Hid (∀ x (hx : x < l.length), x < j + 1 → rgOk l[x] = true) := Lib.hid fun x hx hxj => by
          by_cases e : x = j
          · subst e; exact hq
          · exact HD.out x hx (by omega)
        have HQ := Lib.hid hq
        clear hq
        generalize l[j] = x at hcell HQ
        go_wp2_with (go_at_call 86; refine (rIsRegN _ _ HQ.out _).mono ?_; rintro e wz ⟨rfl, rfl⟩)
        go_roundw
        case rel => exact ⟨j + 1, by omega, rfl, by go_num, HS, by trivial⟩
        case measure => simp [intOf]; omega
    · have HX := Lib.hid (renOk HE.out HL.out (fun x hx => by
        obtain ⟨i, hi, rfl⟩ := List.getElem_of_mem hx
        exact HD.out i hi (by have := HL.out; omega)))
      have HRE := Lib.hid (show I = (I8.mk8 k a b c obj n fn ord).ren (mpL l) ∧ E = 0 by rw [← HIE.out.1, ← HIE.out.2, HX.out.1, HX.out.2]; exact ⟨rfl, rfl⟩)
      have xa := HA.out a (by rw [HL.out]; exact ha)
      have xb := HA.out b (by rw [HL.out]; exact hb)
      have xc := HA.out c (by rw [HL.out]; exact hc)
      have HXV := Lib.hid (show l[a]'(by rw [HL.out]; exact ha) = mpL l a ∧ l[b]'(by rw [HL.out]; exact hb) = mpL l b ∧ l[c]'(by rw [HL.out]; exact hc) = mpL l c by
        exact ⟨mpAt _ _, mpAt _ _, mpAt _ _⟩)
      rw [HXV.out.1] at xa
      rw [HXV.out.2.1] at xb
      rw [HXV.out.2.2] at xc
      generalize hma : mpL l a = ma at xa
      generalize hmb : mpL l b = mb at xb
      generalize hmc : mpL l c = mc at xc
      have HMM := Lib.hid (And.intro hma (And.intro hmb hmc))
      clear hma hmb hmc HXV HX
      obtain ⟨q0, hq0⟩ : ∃ u, us k 0 = u := ⟨_, rfl⟩
      obtain ⟨q1, hq1⟩ : ∃ u, us k 1 = u := ⟨_, rfl⟩
      obtain ⟨q2, hq2⟩ : ∃ u, us k 2 = u := ⟨_, rfl⟩
      have HA0 := Lib.hid (rHasN k 0 h1 h2 (by omega) 65 rfl q0 hq0)
      have HA1 := Lib.hid (rHasN k 1 h1 h2 (by omega) 66 rfl q1 hq1)
      have HA2 := Lib.hid (rHasN k 2 h1 h2 (by omega) 67 rfl q2 hq2)
      have HREN : Hid (I = ⟨k, if q0 then ma else a, if q1 then mb else b, if q2 then mc else c, obj, n, fn, ord⟩) := Lib.hid (by
        rw [HRE.out.1, ← HMM.out.1, ← HMM.out.2.1, ← HMM.out.2.2, ← hq0, ← hq1, ← hq2]; rfl)
      clear hq0 hq1 hq2
      have hz1 : w.heap.size + 2 ≤ wr.heap.size := by omega
      obtain ⟨V, hV⟩ : ∃ V, wr.alloc (.cells #[.int .i64 k, .int .i64 a, .int .i64 b, .int .i64 c, .int .i64 obj, .int .i64 n, .int .i64 fn, .int .i64 ord] 51) = V := ⟨_, rfl⟩
      have hbV : Below wr.heap.size wr V := by rw [← hV]; exact belowAlloc wr _
      have hub := Nat.lt_of_lt_of_le hbb (show w.heap.size ≤ wr.heap.size by omega)
      obtain ⟨B, hB⟩ : ∃ B, wr.heap.size = B := ⟨_, rfl⟩
      have HS := Lib.hid (show RSt w B bb (off + a) (off + b) (off + c) k a b c obj n fn ord ma mb mc a b c V from ⟨HM.out.below' hbV, HRB.out.below' hbV, by rw [← hV, ← hB]; exact Blk.new wr _ _, (hbV.cell hub).trans xa, (hbV.cell hub).trans xb, (hbV.cell hub).trans xc, hb2.trans (hbV.mono hb2.size), hbb, by omega⟩)
      obtain ⟨⟨⟨c0, c1, c2, c3, c4, c5, c6, c7⟩, -⟩, ⟨⟨o0, o1, o2, o3, o4, o5, o6, o7⟩, e0, e1, e2, e3, e4, e5, e6, e7⟩, ⟨⟨r0, r1, r2, r3, r4, r5, r6, r7⟩, s0, s1, s2, s3, s4, s5, s6, s7⟩, xa, xb, xc⟩ := HS.out.facts
      clear g0 g1 g2 g3 g4 g5 g6 g7 f0 f1 f2 f3 f4 f5 f6 f7
      have hlt2 : ¬ j < 8 := hlt
      go_wp2_with fail
      refine (HA0.out _).mono ?_
      rintro e' wv0 ⟨rfl, bv0⟩
      have HS := Lib.hid (HS.out.below bv0)
      obtain ⟨⟨⟨c0, c1, c2, c3, c4, c5, c6, c7⟩, -⟩, ⟨⟨o0, o1, o2, o3, o4, o5, o6, o7⟩, e0, e1, e2, e3, e4, e5, e6, e7⟩, ⟨⟨r0, r1, r2, r3, r4, r5, r6, r7⟩, s0, s1, s2, s3, s4, s5, s6, s7⟩, xa, xb, xc⟩ := HS.out.facts
      cases q0 with
      | false =>
        go_wp2_with fail
        refine (HA1.out _).mono ?_
        rintro e' wv1 ⟨rfl, bv1⟩
        have HS := Lib.hid (HS.out.below bv1)
        obtain ⟨⟨⟨c0, c1, c2, c3, c4, c5, c6, c7⟩, -⟩, ⟨⟨o0, o1, o2, o3, o4, o5, o6, o7⟩, e0, e1, e2, e3, e4, e5, e6, e7⟩, ⟨⟨r0, r1, r2, r3, r4, r5, r6, r7⟩, s0, s1, s2, s3, s4, s5, s6, s7⟩, xa, xb, xc⟩ := HS.out.facts
        cases q1 with
        | false =>
          go_wp2_with fail
          refine (HA2.out _).mono ?_
          rintro e' wv2 ⟨rfl, bv2⟩
          have HS := Lib.hid (HS.out.below bv2)
          obtain ⟨⟨⟨c0, c1, c2, c3, c4, c5, c6, c7⟩, -⟩, ⟨⟨o0, o1, o2, o3, o4, o5, o6, o7⟩, e0, e1, e2, e3, e4, e5, e6, e7⟩, ⟨⟨r0, r1, r2, r3, r4, r5, r6, r7⟩, s0, s1, s2, s3, s4, s5, s6, s7⟩, xa, xb, xc⟩ := HS.out.facts
          cases q2 with
          | false =>
            go_wp2_with fail
            refine bodyPost_ret ((stored8 HS.out.r).res2 rfl _ rfl Tryd.underlying51 rfl infoInst) rfl ?_
            rw [HREN.out, HRE.out.2]
            exact ⟨rfl, below8 HS.out.low (Nat.le_succ _)⟩
          | true =>
            have HS := Lib.hid (HS.out.setC)
            go_wp2_with fail
            refine bodyPost_ret ((stored8 HS.out.r).res2 rfl _ rfl Tryd.underlying51 rfl infoInst) rfl ?_
            rw [HREN.out, HRE.out.2]
            exact ⟨rfl, below8 HS.out.low (Nat.le_succ _)⟩
        | true =>
          have HS := Lib.hid (HS.out.setB)
          go_wp2_with fail
          refine (HA2.out _).mono ?_
          rintro e' wv2 ⟨rfl, bv2⟩
          have HS := Lib.hid (HS.out.below bv2)
          obtain ⟨⟨⟨c0, c1, c2, c3, c4, c5, c6, c7⟩, -⟩, ⟨⟨o0, o1, o2, o3, o4, o5, o6, o7⟩, e0, e1, e2, e3, e4, e5, e6, e7⟩, ⟨⟨r0, r1, r2, r3, r4, r5, r6, r7⟩, s0, s1, s2, s3, s4, s5, s6, s7⟩, xa, xb, xc⟩ := HS.out.facts
          cases q2 with
          | false =>
            go_wp2_with fail
            refine bodyPost_ret ((stored8 HS.out.r).res2 rfl _ rfl Tryd.underlying51 rfl infoInst) rfl ?_
            rw [HREN.out, HRE.out.2]
            exact ⟨rfl, below8 HS.out.low (Nat.le_succ _)⟩
          | true =>
            have HS := Lib.hid (HS.out.setC)
            go_wp2_with fail
            refine bodyPost_ret ((stored8 HS.out.r).res2 rfl _ rfl Tryd.underlying51 rfl infoInst) rfl ?_
            rw [HREN.out, HRE.out.2]
            exact ⟨rfl, below8 HS.out.low (Nat.le_succ _)⟩
      | true =>
        have HS := Lib.hid (HS.out.setA)
        go_wp2_with fail
        refine (HA1.out _).mono ?_
        rintro e' wv1 ⟨rfl, bv1⟩
        have HS := Lib.hid (HS.out.below bv1)
        obtain ⟨⟨⟨c0, c1, c2, c3, c4, c5, c6, c7⟩, -⟩, ⟨⟨o0, o1, o2, o3, o4, o5, o6, o7⟩, e0, e1, e2, e3, e4, e5, e6, e7⟩, ⟨⟨r0, r1, r2, r3, r4, r5, r6, r7⟩, s0, s1, s2, s3, s4, s5, s6, s7⟩, xa, xb, xc⟩ := HS.out.facts
        cases q1 with
        | false =>
          go_wp2_with fail
          refine (HA2.out _).mono ?_
          rintro e' wv2 ⟨rfl, bv2⟩
          have HS := Lib.hid (HS.out.below bv2)
          obtain ⟨⟨⟨c0, c1, c2, c3, c4, c5, c6, c7⟩, -⟩, ⟨⟨o0, o1, o2, o3, o4, o5, o6, o7⟩, e0, e1, e2, e3, e4, e5, e6, e7⟩, ⟨⟨r0, r1, r2, r3, r4, r5, r6, r7⟩, s0, s1, s2, s3, s4, s5, s6, s7⟩, xa, xb, xc⟩ := HS.out.facts
          cases q2 with
          | false =>
            go_wp2_with fail
            refine bodyPost_ret ((stored8 HS.out.r).res2 rfl _ rfl Tryd.underlying51 rfl infoInst) rfl ?_
            rw [HREN.out, HRE.out.2]
            exact ⟨rfl, below8 HS.out.low (Nat.le_succ _)⟩
          | true =>
            have HS := Lib.hid (HS.out.setC)
            go_wp2_with fail
            refine bodyPost_ret ((stored8 HS.out.r).res2 rfl _ rfl Tryd.underlying51 rfl infoInst) rfl ?_
            rw [HREN.out, HRE.out.2]
            exact ⟨rfl, below8 HS.out.low (Nat.le_succ _)⟩
        | true =>
          have HS := Lib.hid (HS.out.setB)
          go_wp2_with fail
          refine (HA2.out _).mono ?_
          rintro e' wv2 ⟨rfl, bv2⟩
          have HS := Lib.hid (HS.out.below bv2)
          obtain ⟨⟨⟨c0, c1, c2, c3, c4, c5, c6, c7⟩, -⟩, ⟨⟨o0, o1, o2, o3, o4, o5, o6, o7⟩, e0, e1, e2, e3, e4, e5, e6, e7⟩, ⟨⟨r0, r1, r2, r3, r4, r5, r6, r7⟩, s0, s1, s2, s3, s4, s5, s6, s7⟩, xa, xb, xc⟩ := HS.out.facts
          cases q2 with
          | false =>
            go_wp2_with fail
            refine bodyPost_ret ((stored8 HS.out.r).res2 rfl _ rfl Tryd.underlying51 rfl infoInst) rfl ?_
            rw [HREN.out, HRE.out.2]
            exact ⟨rfl, below8 HS.out.low (Nat.le_succ _)⟩
          | true =>
            have HS := Lib.hid (HS.out.setC)
            go_wp2_with fail
            refine bodyPost_ret ((stored8 HS.out.r).res2 rfl _ rfl Tryd.underlying51 rfl infoInst) rfl ?_
            rw [HREN.out, HRE.out.2]
            exact ⟨rfl, below8 HS.out.low (Nat.le_succ _)⟩

/-- Rename: the renamed instruction and OK, or the error. -/
theorem rRen (i : I8) (l : List Int) (n : Nat) (hn : l.length = n) (I : I8) (E : Int) (hI : i.renI l = I) (hE : i.renE l = E) (A : Option Addr) (cp : Nat) (w : World) (hA : Rd w A cp l) :
    Calls Tryd.prog 56 #[i.val, .slice A n cp] w fun e w' => e = .returned (.tuple #[I.val, .int .i64 E]) ∧ Below w.heap.size w w' := by
  obtain ⟨op, a, b, c, obj, nn, fn, ord⟩ := i
  by_cases h : (I8.mk8 op a b c obj nn fn ord).chk = 0
  · have hg := I8.good h
    obtain ⟨k, rfl⟩ : ∃ k : Nat, op = k := ⟨op.toNat, by have := hg.op.1; simp only at this; omega⟩
    obtain ⟨a, rfl⟩ : ∃ k : Nat, a = k := ⟨a.toNat, by have := hg.a.1; simp only at this; omega⟩
    obtain ⟨b, rfl⟩ : ∃ k : Nat, b = k := ⟨b.toNat, by have := hg.b.1; simp only at this; omega⟩
    obtain ⟨c, rfl⟩ : ∃ k : Nat, c = k := ⟨c.toNat, by have := hg.c.1; simp only at this; omega⟩
    have h1 := hg.op
    have h2 := hg.a
    have h3 := hg.b
    have h4 := hg.c
    simp only at h1 h2 h3 h4
    by_cases hn8 : n = 8
    · subst hn8
      obtain ⟨bb, off, rfl, hbb, hf⟩ := rdFlat hA (by omega)
      exact rRen8 k (by omega) (by omega) a b c obj nn fn ord h (by omega) (by omega) (by omega) l hn cp w bb off hbb hf I E hI hE
    · exact rRenLen k (by omega) (by omega) a b c obj nn fn ord h l n hn8 hn A cp w hA I E hI hE
  · exact rRenBad op a b c obj nn fn ord h l n A cp w I E hI hE
end Go.Proofs.YtcecnkpdaaojeaaDoor
