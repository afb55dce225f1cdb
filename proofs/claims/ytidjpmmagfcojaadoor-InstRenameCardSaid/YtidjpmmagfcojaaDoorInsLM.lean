/-
  The law InstRename returns true for every instruction and every two numbers, where the tables are laid; nothing that was in memory changes.
-/
import Derived.Test.YtidjpmmagfcojaaDoorInsX
import Derived.Test.YtidjpmmagfcojaaDoorInsLN
namespace Go.Proofs.YtidjpmmagfcojaaDoor
open Go Go.RowKit

theorem usesG (i : I8) (r : List Int) (k : Nat) (hk : r.length = k) (hr : i.uses = r) (hi : i.Wf) (w : World) (hT : InsT w) (hN : Nm w) :
    Calls Tryd.prog 37 #[i.val] w fun e w' => ∃ A c, e = .returned (.slice A k c) ∧ Rd w' A c r ∧ Below w.heap.size w w' := by subst hk; exact iUses i r hr hi w hT hN
theorem defsA (op a b c obj n fn ord r : Int) (p : Bool) (hr : (I8.mk8 op a b c obj n fn ord).dfR = r) (hp : (I8.mk8 op a b c obj n fn ord).dfB = p) (hi : (I8.mk8 op a b c obj n fn ord).Wf) (w : World) (hT : InsT w) (hN : Nm w) :
    Calls Tryd.prog 36 #[.agg #[.int .i64 op, .int .i64 a, .int .i64 b, .int .i64 c, .int .i64 obj, .int .i64 n, .int .i64 fn, .int .i64 ord]] w fun e w' => e = .returned (.tuple #[.int .i64 r, .bool p]) ∧ Below w.heap.size w w' := iDefs _ r p hr hp hi w hT hN
theorem usesA (op a b c obj n fn ord : Int) (r : List Int) (k : Nat) (hk : r.length = k) (hr : (I8.mk8 op a b c obj n fn ord).uses = r) (hi : (I8.mk8 op a b c obj n fn ord).Wf) (w : World) (hT : InsT w) (hN : Nm w) :
    Calls Tryd.prog 37 #[.agg #[.int .i64 op, .int .i64 a, .int .i64 b, .int .i64 c, .int .i64 obj, .int .i64 n, .int .i64 fn, .int .i64 ord]] w fun e w' => ∃ A c, e = .returned (.slice A k c) ∧ Rd w' A c r ∧ Below w.heap.size w w' := usesG _ r k hk hr hi w hT hN
structure RnM (W : World) (bi ba bb bc bd : Nat) (op a b c obj n fn ord pa pb pc qa qb qc : Int) (fb px : Nat) (fx : Int) : Prop where
  bxi : Blk W bi 52 #[.int .i64 op, .int .i64 a, .int .i64 b, .int .i64 c, .int .i64 obj, .int .i64 n, .int .i64 fn, .int .i64 ord]
  bxa : Blk W ba 52 #[.int .i64 op, .int .i64 pa, .int .i64 pb, .int .i64 pc, .int .i64 obj, .int .i64 n, .int .i64 fn, .int .i64 ord]
  bxb : Blk W bb 52 #[.int .i64 op, .int .i64 qa, .int .i64 qb, .int .i64 qc, .int .i64 obj, .int .i64 n, .int .i64 fn, .int .i64 ord]
  bxc : Blk W bc 52 #[.int .i64 op, .int .i64 qa, .int .i64 qb, .int .i64 qc, .int .i64 obj, .int .i64 n, .int .i64 fn, .int .i64 ord]
  bxd : Blk W bd 52 #[.int .i64 op, .int .i64 a, .int .i64 b, .int .i64 c, .int .i64 obj, .int .i64 n, .int .i64 fn, .int .i64 ord]
  f : W.cell? ⟨fb, px, none⟩ = some (.int .i64 fx)
theorem RnM.below {W : World} {bi ba bb bc bd : Nat} {op a b c obj n fn ord pa pb pc qa qb qc : Int} {fb px : Nat} {fx : Int} (h : RnM W bi ba bb bc bd op a b c obj n fn ord pa pb pc qa qb qc fb px fx) {X : World} (hX : Below W.heap.size W X) : RnM X bi ba bb bc bd op a b c obj n fn ord pa pb pc qa qb qc fb px fx :=
  ⟨h.bxi.below' hX, h.bxa.below' hX, h.bxb.below' hX, h.bxc.below' hX, h.bxd.below' hX, (hX.cell (World.block_lt_of_cell? _ _ h.f)).trans h.f⟩
theorem RnM.facts {W : World} {bi ba bb bc bd : Nat} {op a b c obj n fn ord pa pb pc qa qb qc : Int} {fb px : Nat} {fx : Int} (h : RnM W bi ba bb bc bd op a b c obj n fn ord pa pb pc qa qb qc fb px fx) : (W.cell? ⟨bi, 0, none⟩ = some (.int .i64 op) ∧ W.cell? ⟨bi, 1, none⟩ = some (.int .i64 a) ∧ W.cell? ⟨bi, 2, none⟩ = some (.int .i64 b) ∧ W.cell? ⟨bi, 3, none⟩ = some (.int .i64 c) ∧ W.cell? ⟨bi, 4, none⟩ = some (.int .i64 obj) ∧ W.cell? ⟨bi, 5, none⟩ = some (.int .i64 n) ∧ W.cell? ⟨bi, 6, none⟩ = some (.int .i64 fn) ∧ W.cell? ⟨bi, 7, none⟩ = some (.int .i64 ord)) ∧ (W.cell? ⟨ba, 0, none⟩ = some (.int .i64 op) ∧ W.cell? ⟨ba, 1, none⟩ = some (.int .i64 pa) ∧ W.cell? ⟨ba, 2, none⟩ = some (.int .i64 pb) ∧ W.cell? ⟨ba, 3, none⟩ = some (.int .i64 pc) ∧ W.cell? ⟨ba, 4, none⟩ = some (.int .i64 obj) ∧ W.cell? ⟨ba, 5, none⟩ = some (.int .i64 n) ∧ W.cell? ⟨ba, 6, none⟩ = some (.int .i64 fn) ∧ W.cell? ⟨ba, 7, none⟩ = some (.int .i64 ord)) ∧ (W.cell? ⟨bb, 0, none⟩ = some (.int .i64 op) ∧ W.cell? ⟨bb, 1, none⟩ = some (.int .i64 qa) ∧ W.cell? ⟨bb, 2, none⟩ = some (.int .i64 qb) ∧ W.cell? ⟨bb, 3, none⟩ = some (.int .i64 qc) ∧ W.cell? ⟨bb, 4, none⟩ = some (.int .i64 obj) ∧ W.cell? ⟨bb, 5, none⟩ = some (.int .i64 n) ∧ W.cell? ⟨bb, 6, none⟩ = some (.int .i64 fn) ∧ W.cell? ⟨bb, 7, none⟩ = some (.int .i64 ord)) ∧ (W.cell? ⟨bc, 0, none⟩ = some (.int .i64 op) ∧ W.cell? ⟨bc, 1, none⟩ = some (.int .i64 qa) ∧ W.cell? ⟨bc, 2, none⟩ = some (.int .i64 qb) ∧ W.cell? ⟨bc, 3, none⟩ = some (.int .i64 qc) ∧ W.cell? ⟨bc, 4, none⟩ = some (.int .i64 obj) ∧ W.cell? ⟨bc, 5, none⟩ = some (.int .i64 n) ∧ W.cell? ⟨bc, 6, none⟩ = some (.int .i64 fn) ∧ W.cell? ⟨bc, 7, none⟩ = some (.int .i64 ord)) ∧ (W.cell? ⟨bd, 0, none⟩ = some (.int .i64 op) ∧ W.cell? ⟨bd, 1, none⟩ = some (.int .i64 a) ∧ W.cell? ⟨bd, 2, none⟩ = some (.int .i64 b) ∧ W.cell? ⟨bd, 3, none⟩ = some (.int .i64 c) ∧ W.cell? ⟨bd, 4, none⟩ = some (.int .i64 obj) ∧ W.cell? ⟨bd, 5, none⟩ = some (.int .i64 n) ∧ W.cell? ⟨bd, 6, none⟩ = some (.int .i64 fn) ∧ W.cell? ⟨bd, 7, none⟩ = some (.int .i64 ord)) ∧ W.cell? ⟨fb, px, none⟩ = some (.int .i64 fx) :=
  ⟨boxFactsW h.bxi, boxFactsW h.bxa, boxFactsW h.bxb, boxFactsW h.bxc, boxFactsW h.bxd, h.f⟩

set_option maxRecDepth 100000 in
set_option maxHeartbeats 8000000 in
theorem lawRenameYes (op a b c obj n fn ord : Int) (h : (I8.mk8 op a b c obj n fn ord).chk = 0) (hi : (I8.mk8 op a b c obj n fn ord).Wf) (m n2 : Nat) (hm : m < 4294967296) (hn2 : n2 < 4294967296) (w : World) (hL : Laid7 w) :
    Calls Tryd.prog 9 #[.agg #[.int .i64 op, .int .i64 a, .int .i64 b, .int .i64 c, .int .i64 obj, .int .i64 n, .int .i64 fn, .int .i64 ord], .int .u32 (m : Int), .int .u32 (n2 : Int)] w (LawOk7 w) := by
  obtain ⟨W0, hW0, hbW0, hzW0, hbox0⟩ := boxNew w op a b c obj n fn ord
  obtain ⟨pa, pb, pc, qa, qb, qc, x, y, ok, u, v, F⟩ := rnFacts (I8.mk8 op a b c obj n fn ord) (I8.good h) hi m n2
  simp only at F
  obtain ⟨nu, hnu⟩ : ∃ k, u.length = k := ⟨_, rfl⟩
  obtain ⟨nv, hnv⟩ : ∃ k, v.length = k := ⟨_, rfl⟩
  obtain ⟨xn, hxn⟩ : ∃ k : Nat, x = k := ⟨x.toNat, by have := F.x0; omega⟩
  obtain ⟨f, hf⟩ : ∃ f, dgs m = f := ⟨_, rfl⟩
  obtain ⟨g, hg⟩ : ∃ f, dgs n2 = f := ⟨_, rfl⟩
  have hfl : f.length = 8 := by rw [← hf]; exact dgsLen m
  have hgl : g.length = 8 := by rw [← hg]; exact dgsLen n2
  have hfr : ∀ z ∈ f, rgOk z = true := by rw [← hf]; exact dgsAll m
  rw [hf, hg] at F
  obtain ⟨hh, hhh⟩ : ∃ l, f.map (mpL g) = l := ⟨_, rfl⟩
  have hhl : hh.length = 8 := by rw [← hhh, mapLen, hfl]
  rw [hhh] at F
  subst hxn
  have HCK := Lib.hid (iCheckA op a b c obj n fn ord 0 h hi)
  have HMF := Lib.hid (fun w => (lMap m hm w).mono fun e w' (hx : ∃ A c, e = .returned (.slice A 8 c) ∧ Rd w' A c (dgs m) ∧ Below w.heap.size w w') => by rw [hf] at hx; exact hx)
  have HMG := Lib.hid (fun w => (lMap n2 hn2 w).mono fun e w' (hx : ∃ A c, e = .returned (.slice A 8 c) ∧ Rd w' A c (dgs n2) ∧ Below w.heap.size w w') => by rw [hg] at hx; exact hx)
  have HR1 := Lib.hid (iRenA op a b c obj n fn ord f 8 hfl op pa pb pc obj n fn ord 0 F.i1 F.e1 hi)
  have HR2 := Lib.hid (iRenA op pa pb pc obj n fn ord g 8 hgl op qa qb qc obj n fn ord 0 F.i2 F.e2 F.wf)
  have HR3 := Lib.hid (iRenA op a b c obj n fn ord hh 8 hhl op qa qb qc obj n fn ord 0 F.i3 F.e3 hi)
  have HR4 := Lib.hid (iRenA op a b c obj n fn ord id8 8 rfl op a b c obj n fn ord 0 F.i4 F.e4 hi)
  have HD1 := Lib.hid (defsA op a b c obj n fn ord xn ok F.dR F.dB hi)
  have HD2 := Lib.hid (defsA op pa pb pc obj n fn ord y ok F.eR F.eB F.wf)
  have HU1 := Lib.hid (usesA op a b c obj n fn ord u nu hnu F.us hi)
  have HU2 := Lib.hid (usesA op pa pb pc obj n fn ord v nv hnv F.vs F.wf)
  have HC2 := Lib.hid (iCheckA op pa pb pc obj n fn ord 0 F.ck F.wf)
  have HIM := Lib.hid (fun A B c d w => lImage u f nu hnu (by have := F.ul; omega) hfl F.ur v F.uv nv hnv A B c d w)
  have HIN := Lib.hid (fun A B c d w => intsEq7 v nv nv hnv hnv A B c d w)
  have hx8 : xn < 8 := by have := F.x8; omega
  have hnu2 : nu ≤ 2 := by have := F.ul; omega
  have HUR := Lib.hid F.ur
  have HXY := Lib.hid F.xy
  have HFR := Lib.hid hfr
  have HFL := Lib.hid hfl
  have HGL := Lib.hid hgl
  have HNU := Lib.hid hnu
  have HHH := Lib.hid hhh
  have HL := Lib.hid (hL.below hbW0)
  have HM := Lib.hid hbox0
  obtain ⟨c0, c1, c2, c3, c4, c5, c6, c7⟩ := boxFactsW hbox0
  have hx80 : decide ((xn : Int) < 0) = false := by simp
  have hx81 : decide ((8 : Int) ≤ (xn : Int)) = false := by simp; omega
  clear hbox0 h hi hL F hf hg hnu hnv hfl hgl hfr hhh hhl
  go_enter Tryd.func9, Tryd.ntmps9
  go_wp2_with fail
  refine (HCK.out _ HL.out.ins HL.out.nm).mono ?_
  rintro e w1 ⟨rfl, b1⟩
  have Bw1 := belowThen hbW0 b1
  have HL := Lib.hid (HL.out.below b1)
  have HM := Lib.hid (HM.out.below' b1)
  clear c0 c1 c2 c3 c4 c5 c6 c7
  obtain ⟨c0, c1, c2, c3, c4, c5, c6, c7⟩ := boxFactsW HM.out
  go_wp2_with fail
  refine (HMF.out _).mono ?_
  rintro e w2 ⟨A2, cap2, rfl, r2, b2⟩
  have Bw2 := belowThen Bw1 b2
  have HL := Lib.hid (HL.out.below b2)
  have HM := Lib.hid (HM.out.below' b2)
  clear c0 c1 c2 c3 c4 c5 c6 c7
  obtain ⟨c0, c1, c2, c3, c4, c5, c6, c7⟩ := boxFactsW HM.out
  have R2 := Lib.hid r2; clear r2
  go_wp2_with fail
  refine (HMG.out _).mono ?_
  rintro e w3 ⟨A3, cap3, rfl, r3, b3⟩
  have Bw3 := belowThen Bw2 b3
  have HL := Lib.hid (HL.out.below b3)
  have HM := Lib.hid (HM.out.below' b3)
  have R2 := Lib.hid (R2.out.below b3)
  clear c0 c1 c2 c3 c4 c5 c6 c7
  obtain ⟨c0, c1, c2, c3, c4, c5, c6, c7⟩ := boxFactsW HM.out
  have R3 := Lib.hid r3; clear r3
  obtain ⟨fb, fo, hA2, hfb, hff⟩ := rdFlat R2.out (by rw [HFL.out]; omega)
  obtain ⟨gb, go', hA3, hgb, hgf⟩ := rdFlat R3.out (by rw [HGL.out]; omega)
  subst hA2
  subst hA3
  have f8 := R2.out.le
  have g8 := R3.out.le
  have f9 := R2.out.max
  have g9 := R3.out.max
  unfold maxLen at f9 g9
  rw [HFL.out] at f8
  rw [HGL.out] at g8
  have HFF : Hid (∀ j (hj : j < f.length), w3.cell? ⟨fb, fo + j, none⟩ = some (.int .i64 f[j])) := Lib.hid hff
  have HGF : Hid (∀ j (hj : j < g.length), w3.cell? ⟨gb, go' + j, none⟩ = some (.int .i64 g[j])) := Lib.hid hgf
  clear hff hgf
  have hO := Lib.hid (OwnI.made w3 w3.heap.size (Nat.le_refl _))
  go_wp2_with fail
  go_loopw [11, 12] (fun o i wr => ∃ k : Nat, k ≤ 8 ∧ i = .int .i64 k ∧ OwnI wr w3.heap.size o ((f.take k).map (mpL g)) ∧ Below w3.heap.size w3 wr) (fun _ i _ => 8 - (intOf i).toNat)
  case atStart => exact ⟨0, Nat.zero_le _, rfl, hO.out, belowAlloc w3 _⟩
  case round =>
  obtain ⟨k, hk, rfl, os, hb⟩ := hrel
  have hz := hb.size
  by_cases hlt : k < 8
  · have hku : k < f.length := by rw [HFL.out]; exact hlt
    have hc := (hb.cell hfb).trans (HFF.out k hku)
    have hx := rgOk_iff.1 (HFR.out _ (List.getElem_mem hku))
    have HT := Lib.hid (takeMap (mpL g) hku)
    obtain ⟨z, hze⟩ : ∃ z : Nat, f[k] = z := ⟨f[k].toNat, by omega⟩
    have hz8 : z < 8 := by omega
    rw [hze] at hc HT
    have hy := (hb.cell hgb).trans (HGF.out z (by rw [HGL.out]; exact hz8))
    rw [mpAt z (by rw [HGL.out]; exact hz8)] at hy
    generalize mpL g z = yy at hy HT
    have HOS := Lib.hid os; clear os hze hx
    have hlen : ((f.take k).map (mpL g)).length ≤ 8 := by rw [List.length_map, List.length_take]; omega
    have hx0 : (0 : Int) ≤ z := by omega
    have hx88 : (z : Int) < 8 := by omega
    go_wp2_with (first
        | (at_builtin; refine appI _ rfl (.tmp 53) (.tmp 61) rfl w3.heap.size _ _ rfl (HOS.out.alloc _) (some ⟨wr.heap.size, 0, none⟩) 1 1 [yy] rfl rfl (Rd.lit wr [yy] 3 (by simp)) (by rw [List.length_singleton]; omega) (by rw [World.size_alloc]; omega) ?_; intro v1 wx o1 _ bx; have B1 := hb.trans ((belowAl3 wr hz (.cells (iv [yy]).toArray 3)).trans bx))
        | fail)
    go_roundw
    case rel => exact ⟨k + 1, by omega, by go_num, (by rw [HT.out]; exact o1), B1⟩
    case measure => simp [intOf]; omega
  have hk8 : k = 8 := by omega
  subst hk8
  rw [List.take_of_length_le (by rw [HFL.out]; exact Nat.le_refl _), HHH.out] at os
  obtain ⟨A5, cap5, hA5, r5, _⟩ := os.rd
  have hhl : hh.length = 8 := by rw [← HHH.out, mapLen, HFL.out]
  rw [hhl] at hA5
  subst hA5
  clear hlt hk os hhl
  have Bwr := belowThen Bw3 hb
  have HL := Lib.hid (HL.out.below hb)
  have HM := Lib.hid (HM.out.below' hb)
  have R2 := Lib.hid (R2.out.below hb)
  have R3 := Lib.hid (R3.out.below hb)
  clear c0 c1 c2 c3 c4 c5 c6 c7
  obtain ⟨c0, c1, c2, c3, c4, c5, c6, c7⟩ := boxFactsW HM.out
  have R5 := Lib.hid r5; clear r5
  go_wp2_with fail
  refine (HR1.out _ cap2 _ R2.out HL.out.ins HL.out.nm).mono ?_
  rintro e w4 ⟨rfl, b4⟩
  obtain ⟨X1, hX1, hbX1, hzX1, hboxX1⟩ := boxNew w4 op pa pb pc obj n fn ord
  have bX1 := b4.trans (hbX1.mono b4.size)
  have HHX1 := Lib.hid hX1; clear hX1
  clear c0 c1 c2 c3 c4 c5 c6 c7
  have HL := Lib.hid (HL.out.below bX1)
  have HM := Lib.hid (HM.out.below' bX1)
  have R2 := Lib.hid (R2.out.below bX1)
  have R3 := Lib.hid (R3.out.below bX1)
  have R5 := Lib.hid (R5.out.below bX1)
  have HA := Lib.hid hboxX1; clear hboxX1 hzX1 hbX1
  have BX1 := belowThen Bwr bX1
  go_upto_region 11 with fail
  rw [HHX1.out]
  obtain ⟨c0, c1, c2, c3, c4, c5, c6, c7⟩ := boxFactsW HM.out
  obtain ⟨d0, d1, d2, d3, d4, d5, d6, d7⟩ := boxFactsW HA.out
  go_wp2_with fail
  refine (HR2.out _ cap3 _ R3.out HL.out.ins HL.out.nm).mono ?_
  rintro e w5 ⟨rfl, b5⟩
  obtain ⟨X2, hX2, hbX2, hzX2, hboxX2⟩ := boxNew w5 op qa qb qc obj n fn ord
  have bX2 := b5.trans (hbX2.mono b5.size)
  have HHX2 := Lib.hid hX2; clear hX2
  clear c0 c1 c2 c3 c4 c5 c6 c7
  clear d0 d1 d2 d3 d4 d5 d6 d7
  have HL := Lib.hid (HL.out.below bX2)
  have HM := Lib.hid (HM.out.below' bX2)
  have R2 := Lib.hid (R2.out.below bX2)
  have R3 := Lib.hid (R3.out.below bX2)
  have R5 := Lib.hid (R5.out.below bX2)
  have HA := Lib.hid (HA.out.below' bX2)
  have HB := Lib.hid hboxX2; clear hboxX2 hzX2 hbX2
  have BX2 := belowThen BX1 bX2
  go_upto_region 12 with fail
  rw [HHX2.out]
  obtain ⟨c0, c1, c2, c3, c4, c5, c6, c7⟩ := boxFactsW HM.out
  obtain ⟨d0, d1, d2, d3, d4, d5, d6, d7⟩ := boxFactsW HA.out
  obtain ⟨s0, s1, s2, s3, s4, s5, s6, s7⟩ := boxFactsW HB.out
  go_wp2_with fail
  refine (HR3.out A5 cap5 _ R5.out HL.out.ins HL.out.nm).mono ?_
  rintro e w6 ⟨rfl, b6⟩
  obtain ⟨X3, hX3, hbX3, hzX3, hboxX3⟩ := boxNew w6 op qa qb qc obj n fn ord
  have bX3 := b6.trans (hbX3.mono b6.size)
  have HHX3 := Lib.hid hX3; clear hX3
  clear c0 c1 c2 c3 c4 c5 c6 c7
  clear d0 d1 d2 d3 d4 d5 d6 d7
  clear s0 s1 s2 s3 s4 s5 s6 s7
  have HL := Lib.hid (HL.out.below bX3)
  have HM := Lib.hid (HM.out.below' bX3)
  have R2 := Lib.hid (R2.out.below bX3)
  have R3 := Lib.hid (R3.out.below bX3)
  have R5 := Lib.hid (R5.out.below bX3)
  have HA := Lib.hid (HA.out.below' bX3)
  have HB := Lib.hid (HB.out.below' bX3)
  have HC := Lib.hid hboxX3; clear hboxX3 hzX3 hbX3
  have BX3 := belowThen BX2 bX3
  go_upto_region 13 with fail
  rw [HHX3.out]
  obtain ⟨c0, c1, c2, c3, c4, c5, c6, c7⟩ := boxFactsW HM.out
  obtain ⟨d0, d1, d2, d3, d4, d5, d6, d7⟩ := boxFactsW HA.out
  obtain ⟨s0, s1, s2, s3, s4, s5, s6, s7⟩ := boxFactsW HB.out
  obtain ⟨t0, t1, t2, t3, t4, t5, t6, t7⟩ := boxFactsW HC.out
  go_wp2_with fail
  have rl := Rd.lit X3 id8 3 (by decide)
  have bl := belowAlloc X3 (.cells (iv id8).toArray 3)
  have HL := Lib.hid (HL.out.below bl)
  have HM := Lib.hid (HM.out.below' bl)
  have R2 := Lib.hid (R2.out.below bl)
  have R3 := Lib.hid (R3.out.below bl)
  have R5 := Lib.hid (R5.out.below bl)
  have HA := Lib.hid (HA.out.below' bl)
  have HB := Lib.hid (HB.out.below' bl)
  have HC := Lib.hid (HC.out.below' bl)
  have Bl := belowThen BX3 bl
  refine (HR4.out _ 8 _ rl HL.out.ins HL.out.nm).mono ?_
  rintro e w7 ⟨rfl, b7⟩
  clear rl
  obtain ⟨X4, hX4, hbX4, hzX4, hboxX4⟩ := boxNew w7 op a b c obj n fn ord
  have bX4 := b7.trans (hbX4.mono b7.size)
  have HHX4 := Lib.hid hX4; clear hX4
  clear c0 c1 c2 c3 c4 c5 c6 c7
  clear d0 d1 d2 d3 d4 d5 d6 d7
  clear s0 s1 s2 s3 s4 s5 s6 s7
  clear t0 t1 t2 t3 t4 t5 t6 t7
  have HL := Lib.hid (HL.out.below bX4)
  have HM := Lib.hid (HM.out.below' bX4)
  have R2 := Lib.hid (R2.out.below bX4)
  have R3 := Lib.hid (R3.out.below bX4)
  have R5 := Lib.hid (R5.out.below bX4)
  have HA := Lib.hid (HA.out.below' bX4)
  have HB := Lib.hid (HB.out.below' bX4)
  have HC := Lib.hid (HC.out.below' bX4)
  have HD := Lib.hid hboxX4; clear hboxX4 hzX4 hbX4
  have BX4 := belowThen Bl bX4
  go_upto_region 14 with fail
  rw [HHX4.out]
  obtain ⟨c0, c1, c2, c3, c4, c5, c6, c7⟩ := boxFactsW HM.out
  obtain ⟨d0, d1, d2, d3, d4, d5, d6, d7⟩ := boxFactsW HA.out
  obtain ⟨s0, s1, s2, s3, s4, s5, s6, s7⟩ := boxFactsW HB.out
  obtain ⟨t0, t1, t2, t3, t4, t5, t6, t7⟩ := boxFactsW HC.out
  obtain ⟨z0, z1, z2, z3, z4, z5, z6, z7⟩ := boxFactsW HD.out
  go_wp2_with fail
  refine (HD1.out _ HL.out.ins HL.out.nm).mono ?_
  rintro e w8 ⟨rfl, b8⟩
  have Bw8 := belowThen BX4 b8
  have HL := Lib.hid (HL.out.below b8)
  have HM := Lib.hid (HM.out.below' b8)
  have R2 := Lib.hid (R2.out.below b8)
  have R3 := Lib.hid (R3.out.below b8)
  have R5 := Lib.hid (R5.out.below b8)
  have HA := Lib.hid (HA.out.below' b8)
  have HB := Lib.hid (HB.out.below' b8)
  have HC := Lib.hid (HC.out.below' b8)
  have HD := Lib.hid (HD.out.below' b8)
  clear c0 c1 c2 c3 c4 c5 c6 c7
  obtain ⟨c0, c1, c2, c3, c4, c5, c6, c7⟩ := boxFactsW HM.out
  clear d0 d1 d2 d3 d4 d5 d6 d7
  obtain ⟨d0, d1, d2, d3, d4, d5, d6, d7⟩ := boxFactsW HA.out
  clear s0 s1 s2 s3 s4 s5 s6 s7
  obtain ⟨s0, s1, s2, s3, s4, s5, s6, s7⟩ := boxFactsW HB.out
  clear t0 t1 t2 t3 t4 t5 t6 t7
  obtain ⟨t0, t1, t2, t3, t4, t5, t6, t7⟩ := boxFactsW HC.out
  clear z0 z1 z2 z3 z4 z5 z6 z7
  obtain ⟨z0, z1, z2, z3, z4, z5, z6, z7⟩ := boxFactsW HD.out
  go_wp2_with fail
  refine (HD2.out _ HL.out.ins HL.out.nm).mono ?_
  rintro e w9 ⟨rfl, b9⟩
  have Bw9 := belowThen Bw8 b9
  have HL := Lib.hid (HL.out.below b9)
  have HM := Lib.hid (HM.out.below' b9)
  have R2 := Lib.hid (R2.out.below b9)
  have R3 := Lib.hid (R3.out.below b9)
  have R5 := Lib.hid (R5.out.below b9)
  have HA := Lib.hid (HA.out.below' b9)
  have HB := Lib.hid (HB.out.below' b9)
  have HC := Lib.hid (HC.out.below' b9)
  have HD := Lib.hid (HD.out.below' b9)
  clear c0 c1 c2 c3 c4 c5 c6 c7
  obtain ⟨c0, c1, c2, c3, c4, c5, c6, c7⟩ := boxFactsW HM.out
  clear d0 d1 d2 d3 d4 d5 d6 d7
  obtain ⟨d0, d1, d2, d3, d4, d5, d6, d7⟩ := boxFactsW HA.out
  clear s0 s1 s2 s3 s4 s5 s6 s7
  obtain ⟨s0, s1, s2, s3, s4, s5, s6, s7⟩ := boxFactsW HB.out
  clear t0 t1 t2 t3 t4 t5 t6 t7
  obtain ⟨t0, t1, t2, t3, t4, t5, t6, t7⟩ := boxFactsW HC.out
  clear z0 z1 z2 z3 z4 z5 z6 z7
  obtain ⟨z0, z1, z2, z3, z4, z5, z6, z7⟩ := boxFactsW HD.out
  go_wp2_with fail
  refine (HU1.out _ HL.out.ins HL.out.nm).mono ?_
  rintro e w10 ⟨A10, cap10, rfl, r10, b10⟩
  have Bw10 := belowThen Bw9 b10
  have HL := Lib.hid (HL.out.below b10)
  have HM := Lib.hid (HM.out.below' b10)
  have R2 := Lib.hid (R2.out.below b10)
  have R3 := Lib.hid (R3.out.below b10)
  have R5 := Lib.hid (R5.out.below b10)
  have HA := Lib.hid (HA.out.below' b10)
  have HB := Lib.hid (HB.out.below' b10)
  have HC := Lib.hid (HC.out.below' b10)
  have HD := Lib.hid (HD.out.below' b10)
  clear c0 c1 c2 c3 c4 c5 c6 c7
  obtain ⟨c0, c1, c2, c3, c4, c5, c6, c7⟩ := boxFactsW HM.out
  clear d0 d1 d2 d3 d4 d5 d6 d7
  obtain ⟨d0, d1, d2, d3, d4, d5, d6, d7⟩ := boxFactsW HA.out
  clear s0 s1 s2 s3 s4 s5 s6 s7
  obtain ⟨s0, s1, s2, s3, s4, s5, s6, s7⟩ := boxFactsW HB.out
  clear t0 t1 t2 t3 t4 t5 t6 t7
  obtain ⟨t0, t1, t2, t3, t4, t5, t6, t7⟩ := boxFactsW HC.out
  clear z0 z1 z2 z3 z4 z5 z6 z7
  obtain ⟨z0, z1, z2, z3, z4, z5, z6, z7⟩ := boxFactsW HD.out
  have R10 := Lib.hid r10; clear r10
  have u8 := R10.out.le
  have u9 := R10.out.max
  unfold maxLen at u9
  rw [HNU.out] at u8
  go_wp2_with fail
  go_loopw [26] (fun i wr => ∃ k : Nat, k ≤ nu ∧ i = .int .i64 k ∧ wr = w10) (fun i _ => nu - (intOf i).toNat)
  case atStart => exact ⟨0, Nat.zero_le _, rfl, rfl⟩
  case round =>
  obtain ⟨k, hk, rfl, rfl⟩ := hrel
  by_cases hlt : k < nu
  · have hku : k < u.length := by rw [HNU.out]; exact hlt
    obtain ⟨ad, rfl, _, hc⟩ := R10.out.one hku
    have hz := HUR.out _ (List.getElem_mem hku)
    generalize u[k] = z at hc hz
    have hz1 : decide (z < 0) = false := by simp; omega
    have hz2 : decide (8 ≤ z) = false := by simp; omega
    clear hz
    go_wp2_with fail
    go_roundw
    case rel => exact ⟨k + 1, by omega, by go_num, by trivial⟩
    case measure => simp [intOf]; omega
  have hkn : k = nu := by omega
  subst hkn
  clear hlt hk
  obtain ⟨fb2, fo2, he2, hfb2, hff2⟩ := rdFlat R2.out (by rw [HFL.out]; omega)
  injection he2 with he2
  injection he2 with he3 he4
  subst he3
  subst he4
  have hfx := hff2 xn (by rw [HFL.out]; exact hx8)
  rw [mpAt xn (by rw [HFL.out]; exact hx8)] at hfx
  obtain ⟨fx, hfxe⟩ : ∃ fx, mpL f xn = fx := ⟨_, rfl⟩
  rw [hfxe] at hfx
  have HFX := Lib.hid hfx
  have hxy := HXY.out
  rw [hfxe] at hxy
  have HXY := Lib.hid hxy
  clear hff2 hfx hxy hfxe
  have HKK := Lib.hid (show RnM wr w.heap.size w4.heap.size w5.heap.size w6.heap.size w7.heap.size op a b c obj n fn ord pa pb pc qa qb qc fb (fo + xn) fx from ⟨HM.out, HA.out, HB.out, HC.out, HD.out, HFX.out⟩)
  clear c0 c1 c2 c3 c4 c5 c6 c7 d0 d1 d2 d3 d4 d5 d6 d7 s0 s1 s2 s3 s4 s5 s6 s7 t0 t1 t2 t3 t4 t5 t6 t7 z0 z1 z2 z3 z4 z5 z6 z7
  obtain ⟨bi, hbi⟩ : ∃ q, w.heap.size = q := ⟨_, rfl⟩
  obtain ⟨ba, hba⟩ : ∃ q, w4.heap.size = q := ⟨_, rfl⟩
  obtain ⟨bb, hbb⟩ : ∃ q, w5.heap.size = q := ⟨_, rfl⟩
  obtain ⟨bc, hbc⟩ : ∃ q, w6.heap.size = q := ⟨_, rfl⟩
  obtain ⟨bd, hbd'⟩ : ∃ q, w7.heap.size = q := ⟨_, rfl⟩
  rw [hbi, hba, hbb, hbc, hbd'] at HKK
  have HKP : Hid (∀ Y, Below wr.heap.size wr Y → Below wr.heap.size wr Y ∧ (Y.cell? ⟨bi, 0, none⟩ = some (.int .i64 op) ∧ Y.cell? ⟨bi, 1, none⟩ = some (.int .i64 a) ∧ Y.cell? ⟨bi, 2, none⟩ = some (.int .i64 b) ∧ Y.cell? ⟨bi, 3, none⟩ = some (.int .i64 c) ∧ Y.cell? ⟨bi, 4, none⟩ = some (.int .i64 obj) ∧ Y.cell? ⟨bi, 5, none⟩ = some (.int .i64 n) ∧ Y.cell? ⟨bi, 6, none⟩ = some (.int .i64 fn) ∧ Y.cell? ⟨bi, 7, none⟩ = some (.int .i64 ord)) ∧ (Y.cell? ⟨ba, 0, none⟩ = some (.int .i64 op) ∧ Y.cell? ⟨ba, 1, none⟩ = some (.int .i64 pa) ∧ Y.cell? ⟨ba, 2, none⟩ = some (.int .i64 pb) ∧ Y.cell? ⟨ba, 3, none⟩ = some (.int .i64 pc) ∧ Y.cell? ⟨ba, 4, none⟩ = some (.int .i64 obj) ∧ Y.cell? ⟨ba, 5, none⟩ = some (.int .i64 n) ∧ Y.cell? ⟨ba, 6, none⟩ = some (.int .i64 fn) ∧ Y.cell? ⟨ba, 7, none⟩ = some (.int .i64 ord)) ∧ (Y.cell? ⟨bb, 0, none⟩ = some (.int .i64 op) ∧ Y.cell? ⟨bb, 1, none⟩ = some (.int .i64 qa) ∧ Y.cell? ⟨bb, 2, none⟩ = some (.int .i64 qb) ∧ Y.cell? ⟨bb, 3, none⟩ = some (.int .i64 qc) ∧ Y.cell? ⟨bb, 4, none⟩ = some (.int .i64 obj) ∧ Y.cell? ⟨bb, 5, none⟩ = some (.int .i64 n) ∧ Y.cell? ⟨bb, 6, none⟩ = some (.int .i64 fn) ∧ Y.cell? ⟨bb, 7, none⟩ = some (.int .i64 ord)) ∧ (Y.cell? ⟨bc, 0, none⟩ = some (.int .i64 op) ∧ Y.cell? ⟨bc, 1, none⟩ = some (.int .i64 qa) ∧ Y.cell? ⟨bc, 2, none⟩ = some (.int .i64 qb) ∧ Y.cell? ⟨bc, 3, none⟩ = some (.int .i64 qc) ∧ Y.cell? ⟨bc, 4, none⟩ = some (.int .i64 obj) ∧ Y.cell? ⟨bc, 5, none⟩ = some (.int .i64 n) ∧ Y.cell? ⟨bc, 6, none⟩ = some (.int .i64 fn) ∧ Y.cell? ⟨bc, 7, none⟩ = some (.int .i64 ord)) ∧ (Y.cell? ⟨bd, 0, none⟩ = some (.int .i64 op) ∧ Y.cell? ⟨bd, 1, none⟩ = some (.int .i64 a) ∧ Y.cell? ⟨bd, 2, none⟩ = some (.int .i64 b) ∧ Y.cell? ⟨bd, 3, none⟩ = some (.int .i64 c) ∧ Y.cell? ⟨bd, 4, none⟩ = some (.int .i64 obj) ∧ Y.cell? ⟨bd, 5, none⟩ = some (.int .i64 n) ∧ Y.cell? ⟨bd, 6, none⟩ = some (.int .i64 fn) ∧ Y.cell? ⟨bd, 7, none⟩ = some (.int .i64 ord)) ∧ Y.cell? ⟨fb, fo + xn, none⟩ = some (.int .i64 fx)) := Lib.hid fun Y hY => ⟨hY, (HKK.out.below hY).facts⟩
  have hbd : Below wr.heap.size wr wr.drew := (Below.refl _ wr).drew
  have hxn0 : (0 : Int) ≤ xn := by omega
  have hxn8 : (xn : Int) < 8 := by omega
  have hxnn : ((xn : Nat) : Int).toNat = xn := by omega
  have HB10 := Lib.hid Bw10
  have hvv : (y == y) = true := by simp
  cases ok
  · -- the guard '!ok ||' is true: the comparison behind it never runs
    go_wp2_with fail
    refine wp_region_held_drew (S := (fun w' => Below wr.heap.size wr w' ∧ (w'.cell? ⟨bi, 0, none⟩ = some (.int .i64 op) ∧ w'.cell? ⟨bi, 1, none⟩ = some (.int .i64 a) ∧ w'.cell? ⟨bi, 2, none⟩ = some (.int .i64 b) ∧ w'.cell? ⟨bi, 3, none⟩ = some (.int .i64 c) ∧ w'.cell? ⟨bi, 4, none⟩ = some (.int .i64 obj) ∧ w'.cell? ⟨bi, 5, none⟩ = some (.int .i64 n) ∧ w'.cell? ⟨bi, 6, none⟩ = some (.int .i64 fn) ∧ w'.cell? ⟨bi, 7, none⟩ = some (.int .i64 ord)) ∧ (w'.cell? ⟨ba, 0, none⟩ = some (.int .i64 op) ∧ w'.cell? ⟨ba, 1, none⟩ = some (.int .i64 pa) ∧ w'.cell? ⟨ba, 2, none⟩ = some (.int .i64 pb) ∧ w'.cell? ⟨ba, 3, none⟩ = some (.int .i64 pc) ∧ w'.cell? ⟨ba, 4, none⟩ = some (.int .i64 obj) ∧ w'.cell? ⟨ba, 5, none⟩ = some (.int .i64 n) ∧ w'.cell? ⟨ba, 6, none⟩ = some (.int .i64 fn) ∧ w'.cell? ⟨ba, 7, none⟩ = some (.int .i64 ord)) ∧ (w'.cell? ⟨bb, 0, none⟩ = some (.int .i64 op) ∧ w'.cell? ⟨bb, 1, none⟩ = some (.int .i64 qa) ∧ w'.cell? ⟨bb, 2, none⟩ = some (.int .i64 qb) ∧ w'.cell? ⟨bb, 3, none⟩ = some (.int .i64 qc) ∧ w'.cell? ⟨bb, 4, none⟩ = some (.int .i64 obj) ∧ w'.cell? ⟨bb, 5, none⟩ = some (.int .i64 n) ∧ w'.cell? ⟨bb, 6, none⟩ = some (.int .i64 fn) ∧ w'.cell? ⟨bb, 7, none⟩ = some (.int .i64 ord)) ∧ (w'.cell? ⟨bc, 0, none⟩ = some (.int .i64 op) ∧ w'.cell? ⟨bc, 1, none⟩ = some (.int .i64 qa) ∧ w'.cell? ⟨bc, 2, none⟩ = some (.int .i64 qb) ∧ w'.cell? ⟨bc, 3, none⟩ = some (.int .i64 qc) ∧ w'.cell? ⟨bc, 4, none⟩ = some (.int .i64 obj) ∧ w'.cell? ⟨bc, 5, none⟩ = some (.int .i64 n) ∧ w'.cell? ⟨bc, 6, none⟩ = some (.int .i64 fn) ∧ w'.cell? ⟨bc, 7, none⟩ = some (.int .i64 ord)) ∧ (w'.cell? ⟨bd, 0, none⟩ = some (.int .i64 op) ∧ w'.cell? ⟨bd, 1, none⟩ = some (.int .i64 a) ∧ w'.cell? ⟨bd, 2, none⟩ = some (.int .i64 b) ∧ w'.cell? ⟨bd, 3, none⟩ = some (.int .i64 c) ∧ w'.cell? ⟨bd, 4, none⟩ = some (.int .i64 obj) ∧ w'.cell? ⟨bd, 5, none⟩ = some (.int .i64 n) ∧ w'.cell? ⟨bd, 6, none⟩ = some (.int .i64 fn) ∧ w'.cell? ⟨bd, 7, none⟩ = some (.int .i64 ord)) ∧ w'.cell? ⟨fb, fo + xn, none⟩ = some (.int .i64 fx))) (by kernel_rfl) ?_ (fun hHeld => ?_)
    · with_reducible exact HKP.out _ hbd
    refine wpAnyH_ready (rs := [0]) (by kernel_rfl) (by simp) ?_
    refine AllReadyH.cons (o := ⟨some 144, _, _, _, _, _⟩) rfl (fun K hK => ?_) AllReadyH.nil
    go_simp
    refine (awakeOk _ (HL.out.below (‹Below wr.heap.size wr _ ∧ _›).1)).mono ?_; rintro e wa ⟨rfl, bk⟩
    refine hK.out _ _ ?_ (fun hHeld0 => ?_)
    · (first
          | with_reducible assumption
          | with_reducible exact HKP.out _ hbd
          | exact HKP.out _ (belowThen (‹Below wr.heap.size wr _ ∧ _›).1 bk))
    clear hK K
    (try simp only [Act.put, List.setIfInBounds_toArray, List.set_cons_zero, List.set_cons_succ])
    refine wpAnyH_take (i := 1) (oi := ⟨some 145, _, _, _, _, _⟩) (v := ?v1) rfl (by kernel_rfl) (by kernel_rfl) (by kernel_rfl) (fun _ _ _ h => h) (Or.inl ⟨by rfl, ?h1⟩) (by assumption) ?r1
    case h1 => (intro w hSw; (try dsimp only at hSw); go_simp; try with_reducible rfl)
    (try simp only [Act.put, List.setIfInBounds_toArray, List.set_cons_zero, List.set_cons_succ])
    refine wpAnyH_take (i := 2) (oi := ⟨some 146, _, _, _, _, _⟩) (v := ?v2) rfl (by kernel_rfl) (by kernel_rfl) (by kernel_rfl) (fun _ _ _ h => h) (Or.inl ⟨by rfl, ?h2⟩) (by assumption) ?r2
    case h2 => (intro w hSw; (try dsimp only at hSw); go_simp; try with_reducible rfl)
    (try simp only [Act.put, List.setIfInBounds_toArray, List.set_cons_zero, List.set_cons_succ])
    refine wpAnyH_take (i := 3) (oi := ⟨some 147, _, _, _, _, _⟩) (v := ?v3) rfl (by kernel_rfl) (by kernel_rfl) (by kernel_rfl) (fun _ _ _ h => h) (Or.inl ⟨by rfl, ?h3⟩) (by assumption) ?r3
    case h3 => (intro w hSw; (try dsimp only at hSw); go_simp; try with_reducible rfl)
    (try simp only [Act.put, List.setIfInBounds_toArray, List.set_cons_zero, List.set_cons_succ])
    refine wpAnyH_take (i := 4) (oi := ⟨some 148, _, _, _, _, _⟩) (v := ?v4) rfl (by kernel_rfl) (by kernel_rfl) (by kernel_rfl) (fun _ _ _ h => h) (Or.inl ⟨by rfl, ?h4⟩) (by assumption) ?r4
    case h4 => (intro w hSw; (try dsimp only at hSw); go_simp; try with_reducible rfl)
    (try simp only [Act.put, List.setIfInBounds_toArray, List.set_cons_zero, List.set_cons_succ])
    refine wpAnyH_take (i := 5) (oi := ⟨some 149, _, _, _, _, _⟩) (v := ?v5) rfl (by kernel_rfl) (by kernel_rfl) (by kernel_rfl) (fun _ _ _ h => h) (Or.inl ⟨by rfl, ?h5⟩) (by assumption) ?r5
    case h5 => (intro w hSw; (try dsimp only at hSw); go_simp; try with_reducible rfl)
    (try simp only [Act.put, List.setIfInBounds_toArray, List.set_cons_zero, List.set_cons_succ])
    refine wpAnyH_take (i := 6) (oi := ⟨some 150, _, _, _, _, _⟩) (v := ?v6) rfl (by kernel_rfl) (by kernel_rfl) (by kernel_rfl) (fun _ _ _ h => h) (Or.inl ⟨by rfl, ?h6⟩) (by assumption) ?r6
    case h6 => (intro w hSw; (try dsimp only at hSw); go_simp; try with_reducible rfl)
    (try simp only [Act.put, List.setIfInBounds_toArray, List.set_cons_zero, List.set_cons_succ])
    refine wpAnyH_take (i := 7) (oi := ⟨some 151, _, _, _, _, _⟩) (v := ?v7) rfl (by kernel_rfl) (by kernel_rfl) (by kernel_rfl) (fun _ _ _ h => h) (Or.inl ⟨by rfl, ?h7⟩) (by assumption) ?r7
    case h7 => (intro w hSw; (try dsimp only at hSw); go_simp; try with_reducible rfl)
    (try simp only [Act.put, List.setIfInBounds_toArray, List.set_cons_zero, List.set_cons_succ])
    refine wpAnyH_take (i := 8) (oi := ⟨some 152, _, _, _, _, _⟩) (v := ?v8) rfl (by kernel_rfl) (by kernel_rfl) (by kernel_rfl) (fun _ _ _ h => h) (Or.inl ⟨by rfl, ?h8⟩) (by assumption) ?r8
    case h8 => (intro w hSw; (try dsimp only at hSw); go_simp; try with_reducible rfl)
    (try simp only [Act.put, List.setIfInBounds_toArray, List.set_cons_zero, List.set_cons_succ])
    refine wpAnyH_take (i := 9) (oi := ⟨some 153, _, _, _, _, _⟩) (v := ?v9) rfl (by kernel_rfl) (by kernel_rfl) (by kernel_rfl) (fun _ _ _ h => h) (Or.inl ⟨by rfl, ?h9⟩) (by assumption) ?r9
    case h9 => (intro w hSw; (try dsimp only at hSw); go_simp; try with_reducible rfl)
    (try simp only [Act.put, List.setIfInBounds_toArray, List.set_cons_zero, List.set_cons_succ])
    refine wpAnyH_take (i := 10) (oi := ⟨some 154, _, _, _, _, _⟩) (v := ?v10) rfl (by kernel_rfl) (by kernel_rfl) (by kernel_rfl) (fun _ _ _ h => h) (Or.inl ⟨by rfl, ?h10⟩) (by assumption) ?r10
    case h10 => (intro w hSw; (try dsimp only at hSw); go_simp; try with_reducible rfl)
    (try simp only [Act.put, List.setIfInBounds_toArray, List.set_cons_zero, List.set_cons_succ])
    refine wpAnyH_take (i := 11) (oi := ⟨some 155, _, _, _, _, _⟩) (v := ?v11) rfl (by kernel_rfl) (by kernel_rfl) (by kernel_rfl) (fun _ _ _ h => h) (Or.inl ⟨by rfl, ?h11⟩) (by assumption) ?r11
    case h11 => (intro w hSw; (try dsimp only at hSw); go_simp; try with_reducible rfl)
    (try simp only [Act.put, List.setIfInBounds_toArray, List.set_cons_zero, List.set_cons_succ])
    refine wpAnyH_take (i := 12) (oi := ⟨some 156, _, _, _, _, _⟩) (v := ?v12) rfl (by kernel_rfl) (by kernel_rfl) (by kernel_rfl) (fun _ _ _ h => h) (Or.inl ⟨by rfl, ?h12⟩) (by assumption) ?r12
    case h12 => (intro w hSw; (try dsimp only at hSw); go_simp; try with_reducible rfl)
    (try simp only [Act.put, List.setIfInBounds_toArray, List.set_cons_zero, List.set_cons_succ])
    refine wpAnyH_take (i := 14) (oi := ⟨some 158, _, _, _, _, _⟩) (v := ?v14) rfl (by kernel_rfl) (by kernel_rfl) (by kernel_rfl) (fun _ _ _ h => h) (Or.inl ⟨by rfl, ?h14⟩) (by assumption) ?r14
    case h14 => (intro w hSw; (try dsimp only at hSw); go_simp; try with_reducible rfl)
    (try simp only [Act.put, List.setIfInBounds_toArray, List.set_cons_zero, List.set_cons_succ])
    refine wpAnyH_ready (rs := [13]) (by kernel_rfl) (by simp) ?_
    refine AllReadyH.cons (o := ⟨some 157, _, _, _, _, _⟩) rfl (fun K hK => ?_) AllReadyH.nil
    go_simp
    refine (lPlain _ _ _ _ _ _ _ _ _).mono ?_; rintro e wb ⟨rfl, bk⟩
    refine hK.out _ _ ?_ (fun hHeld13 => ?_)
    · (first
          | with_reducible assumption
          | with_reducible exact HKP.out _ hbd
          | exact HKP.out _ (belowThen (‹Below wr.heap.size wr _ ∧ _›).1 bk))
    clear hK K
    (try simp only [Act.put, List.setIfInBounds_toArray, List.set_cons_zero, List.set_cons_succ])
    refine wpAnyH_ready (rs := [15]) (by kernel_rfl) (by simp) ?_
    refine AllReadyH.cons (o := ⟨some 159, _, _, _, _, _⟩) rfl (fun K hK => ?_) AllReadyH.nil
    go_simp
    refine (lPlain _ _ _ _ _ _ _ _ _).mono ?_; rintro e wb ⟨rfl, bk⟩
    refine hK.out _ _ ?_ (fun hHeld15 => ?_)
    · (first
          | with_reducible assumption
          | with_reducible exact HKP.out _ hbd
          | exact HKP.out _ (belowThen (‹Below wr.heap.size wr _ ∧ _›).1 bk))
    clear hK K
    (try simp only [Act.put, List.setIfInBounds_toArray, List.set_cons_zero, List.set_cons_succ])
    refine wpAnyH_take (i := 16) (oi := ⟨some 160, _, _, _, _, _⟩) (v := ?v16) rfl (by kernel_rfl) (by kernel_rfl) (by kernel_rfl) (fun _ _ _ h => h) (Or.inl ⟨by rfl, ?h16⟩) (by assumption) ?r16
    case h16 => (intro w hSw; (try dsimp only at hSw); go_simp; try with_reducible rfl)
    (try simp only [Act.put, List.setIfInBounds_toArray, List.set_cons_zero, List.set_cons_succ])
    refine wpAnyH_take (i := 17) (oi := ⟨some 161, _, _, _, _, _⟩) (v := ?v17) rfl (by kernel_rfl) (by kernel_rfl) (by kernel_rfl) (fun _ _ _ h => h) (Or.inl ⟨by rfl, ?h17⟩) (by assumption) ?r17
    case h17 => (intro w hSw; (try dsimp only at hSw); go_simp; try with_reducible rfl)
    (try simp only [Act.put, List.setIfInBounds_toArray, List.set_cons_zero, List.set_cons_succ])
    refine wpAnyH_take (i := 18) (oi := ⟨some 162, _, _, _, _, _⟩) (v := ?v18) rfl (by kernel_rfl) (by kernel_rfl) (by kernel_rfl) (fun _ _ _ h => h) (Or.inl ⟨by rfl, ?h18⟩) (by assumption) ?r18
    case h18 => (intro w hSw; (try dsimp only at hSw); go_simp; try with_reducible rfl)
    (try simp only [Act.put, List.setIfInBounds_toArray, List.set_cons_zero, List.set_cons_succ])
    refine wpAnyH_take (i := 19) (oi := ⟨some 163, _, _, _, _, _⟩) (v := ?v19) rfl (by kernel_rfl) (by kernel_rfl) (by kernel_rfl) (fun _ _ _ h => h) (Or.inl ⟨by rfl, ?h19⟩) (by assumption) ?r19
    case h19 => (intro w hSw; (try dsimp only at hSw); go_simp; try with_reducible rfl)
    (try simp only [Act.put, List.setIfInBounds_toArray, List.set_cons_zero, List.set_cons_succ])
    refine wpAnyH_ready (rs := [20]) (by kernel_rfl) (by simp) ?_
    refine AllReadyH.cons (o := ⟨some 164, _, _, _, _, _⟩) rfl (fun K hK => ?_) AllReadyH.nil
    go_simp
    refine (HC2.out _ (HL.out.below (‹Below wr.heap.size wr _ ∧ _›).1).ins (HL.out.below (‹Below wr.heap.size wr _ ∧ _›).1).nm).mono ?_; rintro e wc ⟨rfl, bk⟩
    refine hK.out _ _ ?_ (fun hHeld20 => ?_)
    · (first
          | with_reducible assumption
          | with_reducible exact HKP.out _ hbd
          | exact HKP.out _ (belowThen (‹Below wr.heap.size wr _ ∧ _›).1 bk))
    clear hK K
    (try simp only [Act.put, List.setIfInBounds_toArray, List.set_cons_zero, List.set_cons_succ])
    refine wpAnyH_take (i := 21) (oi := ⟨some 165, _, _, _, _, _⟩) (v := ?v21) rfl (by kernel_rfl) (by kernel_rfl) (by kernel_rfl) (fun _ _ _ h => h) (Or.inl ⟨by rfl, ?h21⟩) (by assumption) ?r21
    case h21 => (intro w hSw; (try dsimp only at hSw); go_simp; try with_reducible rfl)
    (try simp only [Act.put, List.setIfInBounds_toArray, List.set_cons_zero, List.set_cons_succ])
    refine wpAnyH_take (i := 22) (oi := ⟨some 166, _, _, _, _, _⟩) (v := ?v22) rfl (by kernel_rfl) (by kernel_rfl) (by kernel_rfl) (fun _ _ _ h => h) (Or.inl ⟨by rfl, ?h22⟩) (by assumption) ?r22
    case h22 => (intro w hSw; (try dsimp only at hSw); go_simp; try with_reducible rfl)
    (try simp only [Act.put, List.setIfInBounds_toArray, List.set_cons_zero, List.set_cons_succ])
    refine wpAnyH_take (i := 23) (oi := ⟨some 167, _, _, _, _, _⟩) (v := ?v23) rfl (by kernel_rfl) (by kernel_rfl) (by kernel_rfl) (fun _ _ _ h => h) (Or.inl ⟨by rfl, ?h23⟩) (by assumption) ?r23
    case h23 => (intro w hSw; (try dsimp only at hSw); go_simp; try with_reducible rfl)
    (try simp only [Act.put, List.setIfInBounds_toArray, List.set_cons_zero, List.set_cons_succ])
    refine wpAnyH_take (i := 24) (oi := ⟨some 168, _, _, _, _, _⟩) (v := ?v24) rfl (by kernel_rfl) (by kernel_rfl) (by kernel_rfl) (fun _ _ _ h => h) (Or.inl ⟨by rfl, ?h24⟩) (by assumption) ?r24
    case h24 => (intro w hSw; (try dsimp only at hSw); go_simp; try with_reducible rfl)
    (try simp only [Act.put, List.setIfInBounds_toArray, List.set_cons_zero, List.set_cons_succ])
    refine wpAnyH_take (i := 25) (oi := ⟨some 169, _, _, _, _, _⟩) (v := ?v25) rfl (by kernel_rfl) (by kernel_rfl) (by kernel_rfl) (fun _ _ _ h => h) (Or.inl ⟨by rfl, ?h25⟩) (by assumption) ?r25
    case h25 => (intro w hSw; (try dsimp only at hSw); go_simp; try with_reducible rfl)
    (try simp only [Act.put, List.setIfInBounds_toArray, List.set_cons_zero, List.set_cons_succ])
    refine wpAnyH_take (i := 26) (oi := ⟨some 170, _, _, _, _, _⟩) (v := ?v26) rfl (by kernel_rfl) (by kernel_rfl) (by kernel_rfl) (fun _ _ _ h => h) (Or.inl ⟨by rfl, ?h26⟩) (by assumption) ?r26
    case h26 => (intro w hSw; (try dsimp only at hSw); go_simp; try with_reducible rfl)
    (try simp only [Act.put, List.setIfInBounds_toArray, List.set_cons_zero, List.set_cons_succ])
    refine wpAnyH_take (i := 27) (oi := ⟨some 171, _, _, _, _, _⟩) rfl (by kernel_rfl) (by kernel_rfl) (by kernel_rfl) (fun _ _ _ h => h) (Or.inr ⟨by rfl, rfl⟩) (by assumption) ?r27
    (try simp only [Act.put, List.setIfInBounds_toArray, List.set_cons_zero, List.set_cons_succ])
    refine wpAnyH_take (i := 28) (oi := ⟨some 172, _, _, _, _, _⟩) rfl (by kernel_rfl) (by kernel_rfl) (by kernel_rfl) (fun _ _ _ h => h) (Or.inr ⟨by rfl, rfl⟩) (by assumption) ?r28
    (try simp only [Act.put, List.setIfInBounds_toArray, List.set_cons_zero, List.set_cons_succ])
    refine wpAnyH_take (i := 29) (oi := ⟨some 173, _, _, _, _, _⟩) rfl (by kernel_rfl) (by kernel_rfl) (by kernel_rfl) (fun _ _ _ h => h) (Or.inr ⟨by rfl, rfl⟩) (by assumption) ?r29
    (try simp only [Act.put, List.setIfInBounds_toArray, List.set_cons_zero, List.set_cons_succ])
    refine wpAnyH_take (i := 30) (oi := ⟨some 174, _, _, _, _, _⟩) rfl (by kernel_rfl) (by kernel_rfl) (by kernel_rfl) (fun _ _ _ h => h) (Or.inr ⟨by rfl, rfl⟩) (by assumption) ?r30
    (try simp only [Act.put, List.setIfInBounds_toArray, List.set_cons_zero, List.set_cons_succ])
    refine wpAnyH_take (i := 31) (oi := ⟨some 175, _, _, _, _, _⟩) rfl (by kernel_rfl) (by kernel_rfl) (by kernel_rfl) (fun _ _ _ h => h) (Or.inr ⟨by rfl, rfl⟩) (by assumption) ?r31
    (try simp only [Act.put, List.setIfInBounds_toArray, List.set_cons_zero, List.set_cons_succ])
    refine wpAnyH_take (i := 32) (oi := ⟨some 176, _, _, _, _, _⟩) rfl (by kernel_rfl) (by kernel_rfl) (by kernel_rfl) (fun _ _ _ h => h) (Or.inr ⟨by rfl, rfl⟩) (by assumption) ?r32
    (try simp only [Act.put, List.setIfInBounds_toArray, List.set_cons_zero, List.set_cons_succ])
    refine wpAnyH_take (i := 33) (oi := ⟨some 177, _, _, _, _, _⟩) (v := ?v33) rfl (by kernel_rfl) (by kernel_rfl) (by kernel_rfl) (fun _ _ _ h => h) (Or.inl ⟨by rfl, ?h33⟩) (by assumption) ?r33
    case h33 => (intro w hSw; (try dsimp only at hSw); go_simp; try with_reducible rfl)
    (try simp only [Act.put, List.setIfInBounds_toArray, List.set_cons_zero, List.set_cons_succ])
    refine wpAnyH_take (i := 34) (oi := ⟨some 178, _, _, _, _, _⟩) (v := ?v34) rfl (by kernel_rfl) (by kernel_rfl) (by kernel_rfl) (fun _ _ _ h => h) (Or.inl ⟨by rfl, ?h34⟩) (by assumption) ?r34
    case h34 => (intro w hSw; (try dsimp only at hSw); go_simp; try with_reducible rfl)
    (try simp only [Act.put, List.setIfInBounds_toArray, List.set_cons_zero, List.set_cons_succ])
    refine wpAnyH_take (i := 35) (oi := ⟨some 179, _, _, _, _, _⟩) (v := ?v35) rfl (by kernel_rfl) (by kernel_rfl) (by kernel_rfl) (fun _ _ _ h => h) (Or.inl ⟨by rfl, ?h35⟩) (by assumption) ?r35
    case h35 => (intro w hSw; (try dsimp only at hSw); go_simp; try with_reducible rfl)
    (try simp only [Act.put, List.setIfInBounds_toArray, List.set_cons_zero, List.set_cons_succ])
    refine wpAnyH_take (i := 36) (oi := ⟨some 180, _, _, _, _, _⟩) (v := ?v36) rfl (by kernel_rfl) (by kernel_rfl) (by kernel_rfl) (fun _ _ _ h => h) (Or.inl ⟨by rfl, ?h36⟩) (by assumption) ?r36
    case h36 => (intro w hSw; (try dsimp only at hSw); go_simp; try with_reducible rfl)
    (try simp only [Act.put, List.setIfInBounds_toArray, List.set_cons_zero, List.set_cons_succ])
    refine wpAnyH_take (i := 38) (oi := ⟨some 182, _, _, _, _, _⟩) (v := ?v38) rfl (by kernel_rfl) (by kernel_rfl) (by kernel_rfl) (fun _ _ _ h => h) (Or.inl ⟨by rfl, ?h38⟩) (by assumption) ?r38
    case h38 => (intro w hSw; (try dsimp only at hSw); go_simp; try with_reducible rfl)
    (try simp only [Act.put, List.setIfInBounds_toArray, List.set_cons_zero, List.set_cons_succ])
    refine wpAnyH_take (i := 39) (oi := ⟨some 183, _, _, _, _, _⟩) (v := ?v39) rfl (by kernel_rfl) (by kernel_rfl) (by kernel_rfl) (fun _ _ _ h => h) (Or.inl ⟨by rfl, ?h39⟩) (by assumption) ?r39
    case h39 => (intro w hSw; (try dsimp only at hSw); go_simp; try with_reducible rfl)
    (try simp only [Act.put, List.setIfInBounds_toArray, List.set_cons_zero, List.set_cons_succ])
    refine wpAnyH_ready (rs := [37]) (by kernel_rfl) (by simp) ?_
    refine AllReadyH.cons (o := ⟨some 181, _, _, _, _, _⟩) rfl (fun K hK => ?_) AllReadyH.nil
    go_simp
    refine (HU2.out _ (HL.out.below (‹Below wr.heap.size wr _ ∧ _›).1).ins (HL.out.below (‹Below wr.heap.size wr _ ∧ _›).1).nm).mono ?_; rintro e wd ⟨A11, cap11, rfl, r11, bk⟩; have R11 := Lib.hid r11; clear r11; (try have R12 := Lib.hid (R12.out.below bk))
    refine hK.out _ _ ?_ (fun hHeld37 => ?_)
    · (first
          | with_reducible assumption
          | with_reducible exact HKP.out _ hbd
          | exact HKP.out _ (belowThen (‹Below wr.heap.size wr _ ∧ _›).1 bk))
    clear hK K
    (try simp only [Act.put, List.setIfInBounds_toArray, List.set_cons_zero, List.set_cons_succ])
    refine wpAnyH_ready (rs := [40]) (by kernel_rfl) (by simp) ?_
    refine AllReadyH.cons (o := ⟨some 184, _, _, _, _, _⟩) rfl (fun K hK => ?_) AllReadyH.nil
    go_simp
    refine (HIM.out A10 _ cap10 cap2 _ (R10.out.below (‹Below wr.heap.size wr _ ∧ _›).1) (R2.out.below (‹Below wr.heap.size wr _ ∧ _›).1)).mono ?_; rintro e wf ⟨A12, cap12, rfl, r12, bk⟩; have R12 := Lib.hid r12; clear r12; (try have R11 := Lib.hid (R11.out.below bk))
    refine hK.out _ _ ?_ (fun hHeld40 => ?_)
    · (first
          | with_reducible assumption
          | with_reducible exact HKP.out _ hbd
          | exact HKP.out _ (belowThen (‹Below wr.heap.size wr _ ∧ _›).1 bk))
    clear hK K
    (try simp only [Act.put, List.setIfInBounds_toArray, List.set_cons_zero, List.set_cons_succ])
    refine wpAnyH_ready (rs := [41]) (by kernel_rfl) (by simp) ?_
    refine AllReadyH.cons (o := ⟨some 185, _, _, _, _, _⟩) rfl (fun K hK => ?_) AllReadyH.nil
    go_simp
    refine (HIN.out A11 A12 cap11 cap12 _ R11.out R12.out).mono ?_; rintro e wg ⟨rfl, bk⟩
    refine hK.out _ _ ?_ (fun hHeld41 => ?_)
    · (first
          | with_reducible assumption
          | with_reducible exact HKP.out _ hbd
          | exact HKP.out _ (belowThen (‹Below wr.heap.size wr _ ∧ _›).1 bk))
    clear hK K
    (try simp only [Act.put, List.setIfInBounds_toArray, List.set_cons_zero, List.set_cons_succ])
    refine wpAnyH_take (i := 42) (oi := ⟨some 186, _, _, _, _, _⟩) (v := ?v42) rfl (by kernel_rfl) (by kernel_rfl) (by kernel_rfl) (fun _ _ _ h => h) (Or.inl ⟨by rfl, ?h42⟩) (by assumption) ?r42
    case h42 => (intro w hSw; (try dsimp only at hSw); go_simp; try with_reducible rfl)
    (try simp only [Act.put, List.setIfInBounds_toArray, List.set_cons_zero, List.set_cons_succ])
    refine wpAnyH_take (i := 43) (oi := ⟨some 6, _, _, _, _, _⟩) (v := ?v43) rfl (by kernel_rfl) (by kernel_rfl) (by kernel_rfl) (fun _ _ _ h => h) (Or.inl ⟨by rfl, ?h43⟩) (by assumption) ?r43
    case h43 => (intro w hSw; (try dsimp only at hSw); go_simp; try with_reducible rfl)
    (try simp only [Act.put, List.setIfInBounds_toArray, List.set_cons_zero, List.set_cons_succ])
    refine wpAnyH_done (by kernel_rfl) ?_ _
    all_goals (
      have hb11 := belowThen HB10.out (‹Below wr.heap.size wr wg ∧ _›).1
      go_wp2
      go_ret
      exact ⟨by first | rfl | simp, by first | exact hb11 | (rw [← hbi]; exact hb11)⟩)
  · have hyx := (HXY.out rfl).symm
    subst hyx
    go_wp2_with fail

    go_region_held3 (fun w' => Below wr.heap.size wr w' ∧ (w'.cell? ⟨bi, 0, none⟩ = some (.int .i64 op) ∧ w'.cell? ⟨bi, 1, none⟩ = some (.int .i64 a) ∧ w'.cell? ⟨bi, 2, none⟩ = some (.int .i64 b) ∧ w'.cell? ⟨bi, 3, none⟩ = some (.int .i64 c) ∧ w'.cell? ⟨bi, 4, none⟩ = some (.int .i64 obj) ∧ w'.cell? ⟨bi, 5, none⟩ = some (.int .i64 n) ∧ w'.cell? ⟨bi, 6, none⟩ = some (.int .i64 fn) ∧ w'.cell? ⟨bi, 7, none⟩ = some (.int .i64 ord)) ∧ (w'.cell? ⟨ba, 0, none⟩ = some (.int .i64 op) ∧ w'.cell? ⟨ba, 1, none⟩ = some (.int .i64 pa) ∧ w'.cell? ⟨ba, 2, none⟩ = some (.int .i64 pb) ∧ w'.cell? ⟨ba, 3, none⟩ = some (.int .i64 pc) ∧ w'.cell? ⟨ba, 4, none⟩ = some (.int .i64 obj) ∧ w'.cell? ⟨ba, 5, none⟩ = some (.int .i64 n) ∧ w'.cell? ⟨ba, 6, none⟩ = some (.int .i64 fn) ∧ w'.cell? ⟨ba, 7, none⟩ = some (.int .i64 ord)) ∧ (w'.cell? ⟨bb, 0, none⟩ = some (.int .i64 op) ∧ w'.cell? ⟨bb, 1, none⟩ = some (.int .i64 qa) ∧ w'.cell? ⟨bb, 2, none⟩ = some (.int .i64 qb) ∧ w'.cell? ⟨bb, 3, none⟩ = some (.int .i64 qc) ∧ w'.cell? ⟨bb, 4, none⟩ = some (.int .i64 obj) ∧ w'.cell? ⟨bb, 5, none⟩ = some (.int .i64 n) ∧ w'.cell? ⟨bb, 6, none⟩ = some (.int .i64 fn) ∧ w'.cell? ⟨bb, 7, none⟩ = some (.int .i64 ord)) ∧ (w'.cell? ⟨bc, 0, none⟩ = some (.int .i64 op) ∧ w'.cell? ⟨bc, 1, none⟩ = some (.int .i64 qa) ∧ w'.cell? ⟨bc, 2, none⟩ = some (.int .i64 qb) ∧ w'.cell? ⟨bc, 3, none⟩ = some (.int .i64 qc) ∧ w'.cell? ⟨bc, 4, none⟩ = some (.int .i64 obj) ∧ w'.cell? ⟨bc, 5, none⟩ = some (.int .i64 n) ∧ w'.cell? ⟨bc, 6, none⟩ = some (.int .i64 fn) ∧ w'.cell? ⟨bc, 7, none⟩ = some (.int .i64 ord)) ∧ (w'.cell? ⟨bd, 0, none⟩ = some (.int .i64 op) ∧ w'.cell? ⟨bd, 1, none⟩ = some (.int .i64 a) ∧ w'.cell? ⟨bd, 2, none⟩ = some (.int .i64 b) ∧ w'.cell? ⟨bd, 3, none⟩ = some (.int .i64 c) ∧ w'.cell? ⟨bd, 4, none⟩ = some (.int .i64 obj) ∧ w'.cell? ⟨bd, 5, none⟩ = some (.int .i64 n) ∧ w'.cell? ⟨bd, 6, none⟩ = some (.int .i64 fn) ∧ w'.cell? ⟨bd, 7, none⟩ = some (.int .i64 ord)) ∧ w'.cell? ⟨fb, fo + xn, none⟩ = some (.int .i64 fx))
      (first
        | with_reducible assumption
        | with_reducible exact HKP.out _ hbd
        | exact HKP.out _ (belowThen (‹Below wr.heap.size wr _ ∧ _›).1 bk))
      (first
        | (go_at_call 35; refine (awakeOk _ (HL.out.below (‹Below wr.heap.size wr _ ∧ _›).1)).mono ?_; rintro e wa ⟨rfl, bk⟩)
        | (go_at_call 38; refine (lPlain _ _ _ _ _ _ _ _ _).mono ?_; rintro e wb ⟨rfl, bk⟩)
        | (go_at_call 32; refine (HC2.out _ (HL.out.below (‹Below wr.heap.size wr _ ∧ _›).1).ins (HL.out.below (‹Below wr.heap.size wr _ ∧ _›).1).nm).mono ?_; rintro e wc ⟨rfl, bk⟩)
        | (go_at_call 37; refine (HU2.out _ (HL.out.below (‹Below wr.heap.size wr _ ∧ _›).1).ins (HL.out.below (‹Below wr.heap.size wr _ ∧ _›).1).nm).mono ?_; rintro e wd ⟨A11, cap11, rfl, r11, bk⟩; have R11 := Lib.hid r11; clear r11; (try have R12 := Lib.hid (R12.out.below bk)))
        | (go_at_call 40; refine (HIM.out A10 _ cap10 cap2 _ (R10.out.below (‹Below wr.heap.size wr _ ∧ _›).1) (R2.out.below (‹Below wr.heap.size wr _ ∧ _›).1)).mono ?_; rintro e wf ⟨A12, cap12, rfl, r12, bk⟩; have R12 := Lib.hid r12; clear r12; (try have R11 := Lib.hid (R11.out.below bk)))
        | (go_at_call 39; refine (HIN.out A11 A12 cap11 cap12 _ R11.out R12.out).mono ?_; rintro e wg ⟨rfl, bk⟩))
    all_goals (
      have hb11 := belowThen HB10.out (‹Below wr.heap.size wr wg ∧ _›).1
      go_wp2
      go_ret
      exact ⟨by first | rfl | simp, by first | exact hb11 | (rw [← hbi]; exact hb11)⟩)
end Go.Proofs.YtidjpmmagfcojaaDoor
