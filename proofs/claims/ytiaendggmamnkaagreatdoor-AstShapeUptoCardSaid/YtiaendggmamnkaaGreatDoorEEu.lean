/-
  sameProc: two procedures; slices.EqualFunc at procedures.
-/
import Derived.Test.YtiaendggmamnkaaGreatDoorEAsTm
namespace Go.Proofs.YtiaendggmamnkaaGreatDoor
open Go Go.RowKit

theorem entSP : ∀ args w, (callFunc 71 args).run Tryz.prog w = .ok (.enter 71 args) w := enters_of Tryz.func71 (by kernel_rfl) rfl
/-- What the comparison wants of a procedure's statements: few in all, few parts in their expressions. -/
structure EqM (l : List Sm) : Prop where
  sz : Tr.szL l ≤ 4000000
  ex : Tr.allL FewE l
set_option maxRecDepth 100000 in
set_option maxHeartbeats 2000000 in
theorem iSameP (dx D : Nat) (p q : Pc) (n m : Nat) (hn : p.body.length = n) (hm : q.body.length = m) (A B : Option Addr) (c d : Nat) (w : World) (hp : RdE 9 (EM dx D) w A c p.body) (hq : RdE 9 (EM dx D) w B d q.body) (hep : EqM p.body) (heq : EqM q.body) :
    Calls Tryz.prog 71 #[.agg #[.string p.name, .string p.param, .slice A n c], .agg #[.string q.name, .string q.param, .slice B m d]] w (SaysP (p = q) w) := by
  obtain ⟨W, hW⟩ : ∃ W, (w.alloc (.cells #[.string p.name, .string p.param, .slice A n c] 44)).alloc (.cells #[.string q.name, .string q.param, .slice B m d] 44) = W := ⟨_, rfl⟩
  have hb : Below w.heap.size w W := by rw [← hW]; exact belowThen (belowAlloc _ _) (belowAlloc _ _)
  have h1 : Blk W w.heap.size 44 #[.string p.name, .string p.param, .slice A n c] := by rw [← hW]; exact (Blk.new w _ _).alloc _
  have h2 : Blk W (w.heap.size + 1) 44 #[.string q.name, .string q.param, .slice B m d] := by rw [← hW]; exact Blk.new1 w _ _ _
  have a0 : W.cell? ⟨w.heap.size, 0, none⟩ = some (.string p.name) := h1.cell 0
  have b0 : W.cell? ⟨w.heap.size + 1, 0, none⟩ = some (.string q.name) := h2.cell 0
  have a1 : W.cell? ⟨w.heap.size, 1, none⟩ = some (.string p.param) := h1.cell 1
  have b1 : W.cell? ⟨w.heap.size + 1, 1, none⟩ = some (.string q.param) := h2.cell 1
  have a2 : W.cell? ⟨w.heap.size, 2, none⟩ = some (.slice A n c) := h1.cell 2
  have b2 : W.cell? ⟨w.heap.size + 1, 2, none⟩ = some (.slice B m d) := h2.cell 2
  have HTX := Lib.hid (iTreesM dx D p.body q.body n m hn hm hep.sz heq.sz hep.ex heq.ex A B c d W (hp.below (stabM dx D) hb) (hq.below (stabM dx D) hb))
  have HW := Lib.hid hW
  have HB := Lib.hid hb
  clear h1 h2 hW hb hp hq hep heq hn hm
  rcases e0 : (p.name.toList == q.name.toList)
  · have HNO := Lib.hid (show ¬ p = q from fun h => by rw [h] at e0; simp at e0)
    go_enter Tryz.func71, Tryz.ntmps71
    go_upto_region 1 with fail
    rw [HW.out]
    go_wp2_with fail
    go_ret
    exact SaysP.mk ⟨fun h => absurd h (by decide), fun h => absurd h HNO.out⟩ HB.out
  rcases e1 : (p.param.toList == q.param.toList)
  · have HNO := Lib.hid (show ¬ p = q from fun h => by rw [h] at e1; simp at e1)
    go_enter Tryz.func71, Tryz.ntmps71
    go_upto_region 1 with fail
    rw [HW.out]
    go_wp2_with fail
    go_ret
    exact SaysP.mk ⟨fun h => absurd h (by decide), fun h => absurd h HNO.out⟩ HB.out
  have HYE : Hid (p.body = q.body ↔ p = q) := Lib.hid (by
    have q0 : p.name = q.name := sEqTo e0
    have q1 : p.param = q.param := sEqTo e1
    constructor
    · intro h
      obtain ⟨nm, pr, bd⟩ := p
      obtain ⟨nm', pr', bd'⟩ := q
      simp only at q0 q1 h ⊢
      subst q0 q1 h
      rfl
    · intro h
      rw [h])
  go_enter Tryz.func71, Tryz.ntmps71
  go_upto_region 1 with fail
  rw [HW.out]
  go_wp2_with fail
  refine HTX.out.mono ?_
  rintro e w1 ⟨r, rfl, hr, hb1⟩
  have HRR := Lib.hid (hr.trans HYE.out)
  have HB1 := Lib.hid (belowThen HB.out hb1)
  clear hr hb1
  go_wp2_with fail
  go_ret
  exact SaysP.mk HRR.out HB1.out
set_option maxRecDepth 100000 in
set_option maxHeartbeats 2000000 in
theorem iEqFP (dx D : Nat) (l m : List Pc) (n k : Nat) (hn : l.length = n) (hm : m.length = k) (A B : Option Addr) (c d : Nat) (w : World) (ha : RdE 3 (EPc dx D) w A c l) (hb : RdE 3 (EPc dx D) w B d m) (hlx : ∀ x ∈ l, EqM x.body) (hmx : ∀ x ∈ m, EqM x.body) :
    Calls Tryz.prog 76 #[.slice A n c, .slice B k d, .func (.func 71) #[] #[]] w (SaysP (l = m) w) := by
  have HA := Lib.hid (fun X (hX : Below w.heap.size w X) j (hj : j < l.length) => (ha.below (stabPc dx D) hX).one hj)
  have HB := Lib.hid (fun X (hX : Below w.heap.size w X) j (hj : j < m.length) => (hb.below (stabPc dx D) hX).one hj)
  have HLX := Lib.hid hlx
  have HMX := Lib.hid hmx
  have HN := Lib.hid hn
  have HM := Lib.hid hm
  have g1 := ha.le
  have g2 := ha.max
  have g3 := hb.le
  have g4 := hb.max
  rw [hn] at g1
  rw [hm] at g3
  unfold maxLen at g2 g4
  have hent := entSP
  clear ha hb hn hm hlx hmx
  by_cases hnk : n = k
  rotate_left
  · have HX := Lib.hid (show false = true ↔ l = m from ⟨fun h => absurd h (by decide), fun h => absurd (show n = k by have := congrArg List.length h; rw [HN.out, HM.out] at this; exact this) hnk⟩)
    have hne : ((n : Int) != (k : Int)) = true := by simp; omega
    have hne2 : decide (n = k) = false := by simpa using hnk
    have hb0 := Below.refl w.heap.size w
    go_enter Tryz.func76, Tryz.ntmps76
    go_wp2
    all_goals first
      | (exfalso; omega)
      | (go_ret; exact SaysP.mk HX.out hb0)
  subst hnk
  go_enter Tryz.func76, Tryz.ntmps76
  go_wp2
  go_loopw [7, 8, 9, 17] (fun _ _ _ i wr => ∃ j : Nat, j ≤ n ∧ i = .int .i64 j ∧ Below w.heap.size w wr ∧ Hid (UpTo l m j)) (fun _ _ _ i _ => n - (intOf i).toNat)
  case atStart => exact ⟨0, Nat.zero_le _, rfl, Below.refl _ _, Lib.hid UpTo.zero⟩
  case round =>
    obtain ⟨j, hj, rfl, hb, HU⟩ := hrel
    by_cases hlt : j < n
    · have h1 : j < l.length := by rw [HN.out]; exact hlt
      have h2 : j < m.length := by rw [HM.out]; exact hlt
      have hsp := HLX.out _ (List.getElem_mem h1)
      have hsq := HMX.out _ (List.getElem_mem h2)
      obtain ⟨z, o, hA, _, x0, x1, _, x2, A2, c2, rfl, r2⟩ := HA.out wr hb j h1
      obtain ⟨z', o', hB, _, y0, y1, _, y2, B2, d2, rfl, t2⟩ := HB.out wr hb j h2
      subst hA hB
      have hj0 : (0 : Int) ≤ j := by omega
      have hj1 : (j : Int) < n := by omega
      obtain ⟨p, hp⟩ : ∃ x, l[j] = x := ⟨_, rfl⟩
      obtain ⟨q, hq⟩ : ∃ x, m[j] = x := ⟨_, rfl⟩
      have HL1 := Lib.hid (show ∃ (e1 : j < l.length) (e2 : j < m.length), l[j] = p ∧ m[j] = q from ⟨h1, h2, hp, hq⟩)
      rw [hp] at x0 x1 x2 r2 hsp
      rw [hq] at y0 y1 y2 t2 hsq
      have HFN := Lib.hid (fun Y (hY : Below wr.heap.size wr Y) => iSameP dx D p q _ _ rfl rfl A2 B2 c2 d2 Y (r2.below (stabM dx D) hY) (t2.below (stabM dx D) hY) hsp hsq)
      have HBJ := Lib.hid hb
      obtain ⟨O, hO⟩ : ∃ O : Obj, Obj.cells #[.string p.name, .string p.param, .slice A2 p.body.length c2] 44 = O := ⟨_, rfl⟩
      have s0 := ((belowAlloc wr O).cell (World.block_lt_of_cell? _ _ y0)).trans y0
      have s1 := ((belowAlloc wr O).cell (World.block_lt_of_cell? _ _ y1)).trans y1
      have s2 := ((belowAlloc wr O).cell (World.block_lt_of_cell? _ _ y2)).trans y2
      have HBA := Lib.hid (fun O2 => belowThen (belowAlloc wr O) (belowAlloc _ O2))
      rw [← hO] at s0 s1 s2 HBA
      clear hb hp hq r2 t2 h1 h2 hO hsp hsq
      go_wp2_with fail
      refine (HFN.out _ (HBA.out _)).mono ?_
      rintro e w1 ⟨en, rfl, hxe, b1⟩
      have HXE := Lib.hid hxe
      clear hxe
      cases en
      · have HX := Lib.hid (show false = true ↔ l = m from ⟨fun h => absurd h (by decide), fun h => by
          obtain ⟨e1, e2, e3, e4⟩ := HL1.out
          have : p = q := by rw [← e3, ← e4]; simp only [h]
          exact absurd (HXE.out.2 this) (by simp)⟩)
        clear HXE
        go_wp2_with fail
        go_ret
        exact SaysP.mk HX.out (belowThen HBJ.out (belowThen (HBA.out _) b1))
      · have HX := Lib.hid (show UpTo l m (j + 1) by
          obtain ⟨e1, e2, e3, e4⟩ := HL1.out
          exact HU.out.succ e1 e2 (by rw [e3, e4]; exact HXE.out.1 rfl))
        clear HXE
        go_wp2_with fail
        go_roundw
        case rel => exact ⟨j + 1, by omega, by go_num, belowThen HBJ.out (belowThen (HBA.out _) b1), HX⟩
        case measure => simp [intOf]; omega
    · have HX := Lib.hid (show l = m from HU.out.eq (by simp [HN.out, HM.out]) (by simp [HN.out]; omega))
      go_wp2_with fail
      go_ret
      exact SaysP.mk ⟨fun _ => HX.out, fun _ => rfl⟩ hb
end Go.Proofs.YtiaendggmamnkaaGreatDoor

namespace Go.Proofs.YtiaendggmamnkaaGreatDoor
open Go Go.RowKit

/-- What the comparison wants of a unit. -/
def EqU (u : Un) : Prop := ∀ p ∈ u.procs, EqM p.body
theorem unEqIff (p q : Un) : p = q ↔ p.vars = q.vars ∧ p.muts = q.muts ∧ p.conds = q.conds ∧ p.procs = q.procs ∧ p.thr = q.thr := by
  cases p; cases q
  simp
set_option maxRecDepth 100000 in
set_option maxHeartbeats 4000000 in
theorem iEqualU {a b : PgA} {p q : Un} (dx D : Nat) (w : World) (hP : UnR w a p dx D) (hQ : UnR w b q dx D) (heP : EqU p) (heQ : EqU q) : Calls Tryz.prog 31 #[a.val, b.val] w (SaysP (p = q) w) := by
  obtain ⟨W, hW⟩ : ∃ W, (w.alloc (.cells a.fs 27)).alloc (.cells b.fs 27) = W := ⟨_, rfl⟩
  have hbW : Below w.heap.size w W := by rw [← hW]; exact belowThen (belowAlloc _ _) (belowAlloc _ _)
  have hk1 : UBox W w.heap.size a := by rw [← hW]; exact (Blk.new w _ _).alloc _
  have hk2 : UBox W (w.heap.size + 1) b := by rw [← hW]; exact Blk.new1 w _ _ _
  have HBW := Lib.hid hbW
  have HW := Lib.hid hW
  have HK := Lib.hid (fun X (hX : Below W.heap.size W X) => (hk1.below hX).facts)
  have HK2 := Lib.hid (fun X (hX : Below W.heap.size W X) => (hk2.below hX).facts)
  have hpW := hP.below hbW
  have hqW := hQ.below hbW
  have H1 := Lib.hid (fun X (hX : Below W.heap.size W X) => iEqV p.vars q.vars a.n1 b.n1 hP.l1 hQ.l1 a.A1 b.A1 a.c1 b.c1 X (hpW.below hX).vars (hqW.below hX).vars)
  have H2 := Lib.hid (fun X (hX : Below W.heap.size W X) => iEqS p.muts q.muts a.n2 b.n2 hP.l2 hQ.l2 a.A2 b.A2 a.c2 b.c2 X (hpW.below hX).muts (hqW.below hX).muts)
  have H3 := Lib.hid (fun X (hX : Below W.heap.size W X) => iEqS p.conds q.conds a.n3 b.n3 hP.l3 hQ.l3 a.A3 b.A3 a.c3 b.c3 X (hpW.below hX).conds (hqW.below hX).conds)
  have H4 := Lib.hid (fun X (hX : Below W.heap.size W X) => iEqFP dx D p.procs q.procs a.n4 b.n4 hP.l4 hQ.l4 a.A4 b.A4 a.c4 b.c4 X (hpW.below hX).procs (hqW.below hX).procs heP heQ)
  have H5 := Lib.hid (fun X (hX : Below W.heap.size W X) => iEqL p.thr q.thr a.n5 b.n5 hP.l5 hQ.l5 a.A5 b.A5 a.c5 b.c5 X (hpW.below hX).thr (hqW.below hX).thr)
  obtain ⟨e1, he1⟩ : ∃ e, decide (p.vars = q.vars) = e := ⟨_, rfl⟩
  obtain ⟨e2, he2⟩ : ∃ e, decide (p.muts = q.muts) = e := ⟨_, rfl⟩
  obtain ⟨e3, he3⟩ : ∃ e, decide (p.conds = q.conds) = e := ⟨_, rfl⟩
  obtain ⟨e5, he5⟩ : ∃ e, decide (p.thr = q.thr) = e := ⟨_, rfl⟩
  have HE := Lib.hid (And.intro he1 (And.intro he2 (And.intro he3 he5)))
  have HQ := Lib.hid (unEqIff p q)
  rw [he1] at H1
  rw [he2] at H2
  rw [he3] at H3
  rw [he5] at H5
  obtain ⟨A1, n1, c1, A2, n2, c2, A3, n3, c3, A4, n4, c4, A5, n5, c5⟩ := a
  obtain ⟨B1, m1, d1, B2, m2, d2, B3, m3, d3, B4, m4, d4, B5, m5, d5⟩ := b
  simp only [PgA.val, PgA.fs] at *
  clear he1 he2 he3 he5 hP hQ hpW hqW hk1 hk2 hbW hW heP heQ
  have hb0 := Below.refl W.heap.size W
  go_enter Tryz.func31, Tryz.ntmps31
  go_wp2_with fail
  rw [HW.out]
  refine (H1.out W hb0).mono ?_
  rintro e w1 ⟨rfl, b1⟩
  cases e1
  · have HX := Lib.hid (show false = true ↔ p = q from ⟨fun h => absurd h (by decide), fun h => absurd (HQ.out.1 h).1 (of_decide_eq_false HE.out.1)⟩)
    go_wp2_with fail
    go_ret
    exact SaysP.mk HX.out (belowThen HBW.out b1)
  obtain ⟨x0, x1, x2, x3, x4⟩ := HK.out w1 b1
  obtain ⟨y0, y1, y2, y3, y4⟩ := HK2.out w1 b1
  go_wp2_with fail
  refine (H2.out w1 b1).mono ?_
  rintro e w2 ⟨rfl, b2⟩
  have B2 := belowThen b1 b2
  clear x0 x1 x2 x3 x4 y0 y1 y2 y3 y4
  cases e2
  · have HX := Lib.hid (show false = true ↔ p = q from ⟨fun h => absurd h (by decide), fun h => absurd (HQ.out.1 h).2.1 (of_decide_eq_false HE.out.2.1)⟩)
    go_wp2_with fail
    go_ret
    exact SaysP.mk HX.out (belowThen HBW.out B2)
  obtain ⟨x0, x1, x2, x3, x4⟩ := HK.out w2 B2
  obtain ⟨y0, y1, y2, y3, y4⟩ := HK2.out w2 B2
  go_wp2_with fail
  refine (H3.out w2 B2).mono ?_
  rintro e w3 ⟨rfl, b3⟩
  have B3 := belowThen B2 b3
  clear x0 x1 x2 x3 x4 y0 y1 y2 y3 y4
  cases e3
  · have HX := Lib.hid (show false = true ↔ p = q from ⟨fun h => absurd h (by decide), fun h => absurd (HQ.out.1 h).2.2.1 (of_decide_eq_false HE.out.2.2.1)⟩)
    go_wp2_with fail
    go_ret
    exact SaysP.mk HX.out (belowThen HBW.out B3)
  obtain ⟨x0, x1, x2, x3, x4⟩ := HK.out w3 B3
  obtain ⟨y0, y1, y2, y3, y4⟩ := HK2.out w3 B3
  go_wp2_with fail
  refine (H4.out w3 B3).mono ?_
  rintro e w4 ⟨e4, rfl, h4, b4⟩
  have H4S := Lib.hid h4
  have B4 := belowThen B3 b4
  clear x0 x1 x2 x3 x4 y0 y1 y2 y3 y4 h4
  cases e4
  · have HX := Lib.hid (show false = true ↔ p = q from ⟨fun h => absurd h (by decide), fun h => absurd (H4S.out.2 (HQ.out.1 h).2.2.2.1) (by decide)⟩)
    go_wp2_with fail
    go_ret
    exact SaysP.mk HX.out (belowThen HBW.out B4)
  obtain ⟨x0, x1, x2, x3, x4⟩ := HK.out w4 B4
  obtain ⟨y0, y1, y2, y3, y4⟩ := HK2.out w4 B4
  go_wp2_with fail
  refine (H5.out w4 B4).mono ?_
  rintro e w5 ⟨rfl, b5⟩
  have HX := Lib.hid (show e5 = true ↔ p = q from ⟨fun h => HQ.out.2 ⟨of_decide_eq_true HE.out.1, of_decide_eq_true HE.out.2.1, of_decide_eq_true HE.out.2.2.1, H4S.out.1 (by simp), of_decide_eq_true (HE.out.2.2.2.trans h)⟩, fun h => HE.out.2.2.2.symm.trans (decide_eq_true (HQ.out.1 h).2.2.2.2)⟩)
  go_wp2_with fail
  go_ret
  exact SaysP.mk HX.out (belowThen HBW.out (belowThen B4 b5))
end Go.Proofs.YtiaendggmamnkaaGreatDoor
