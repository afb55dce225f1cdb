/-
  The specification's comparison of two programs.
-/
import Derived.Test.YtpkagpobobmnfaaGreatDoorPX5
import Derived.Test.YtpkagpobobmnfaaGreatDoorPPk
namespace Go.Proofs.YtpkagpobobmnfaaGreatDoor
open Go Go.RowKit

set_option maxHeartbeats 1000000 in
theorem eqVarIs (s t : ByteArray) (x y : Int) (w : World) : (Op.equalIn 10000 82 (.agg #[.string s, .int .i64 x]) (.agg #[.string t, .int .i64 y])).run Tryz.prog w = .ok (sEq s t && x == y) w := by
  have hu := Tryz.underlying82
  rw [run_equalIn_struct w 9999 82 _ _ (by rw [Program.fieldsOf, hu]) (by kernel_rfl)]
  simp only [Program.fieldsOf, hu]
  have i0 := run_equalIn_string (P := Tryz.prog) w 9998 9 s t Tryz.underlying9
  have i1 := run_equalIn_int (P := Tryz.prog) w 9998 3 .i64 .i64 x y Tryz.underlying3
  have q0 : ∀ (a b : Value), (part 9 #[a, b] 0).run Tryz.prog w = .ok a w := fun a b => by kernel_rfl
  have q1 : ∀ (a b : Value), (part 3 #[a, b] 1).run Tryz.prog w = .ok b w := fun a b => by kernel_rfl
  unfold sEq
  generalize (s.toList == t.toList) = b0 at *
  generalize (x == y) = b1 at *
  cases b0
  · simp [Op.eqFields, q0, i0]
  cases b1 <;> simp [Op.eqFields, q0, i0, q1, i1]
set_option maxHeartbeats 1000000 in
theorem eqStartIs (s t x y : Int) (w : World) : (Op.equalIn 10000 84 (.agg #[.int .i64 s, .int .i64 x]) (.agg #[.int .i64 t, .int .i64 y])).run Tryz.prog w = .ok (s == t && x == y) w := by
  have hu := Tryz.underlying84
  rw [run_equalIn_struct w 9999 84 _ _ (by rw [Program.fieldsOf, hu]) (by kernel_rfl)]
  simp only [Program.fieldsOf, hu]
  have i0 := run_equalIn_int (P := Tryz.prog) w 9998 3 .i64 .i64 s t Tryz.underlying3
  have i1 := run_equalIn_int (P := Tryz.prog) w 9998 3 .i64 .i64 x y Tryz.underlying3
  have q0 : ∀ (a b : Value), (part 3 #[a, b] 0).run Tryz.prog w = .ok a w := fun a b => by kernel_rfl
  have q1 : ∀ (a b : Value), (part 3 #[a, b] 1).run Tryz.prog w = .ok b w := fun a b => by kernel_rfl
  generalize (s == t) = b0 at *
  generalize (x == y) = b1 at *
  cases b0
  · simp [Op.eqFields, q0, i0]
  cases b1 <;> simp [Op.eqFields, q0, i0, q1, i1]
/-- Are two programs equal? -/
def eqP (p q : Prg) : Bool := decide (p.vars = q.vars) && (sameS p.muts q.muts && (sameS p.conds q.conds && (decide (p.funcs = q.funcs) && decide (p.thr = q.thr))))
theorem eqPIff {p q : Prg} : eqP p q = true ↔ p = q := by
  unfold eqP sameS
  simp only [Bool.and_eq_true, decide_eq_true_iff]
  obtain ⟨v, m, c, f, t⟩ := p
  obtain ⟨v', m', c', f', t'⟩ := q
  simp only [Prg.mk.injEq]
theorem eqPNo {p q : Prg} (h : p ≠ q) : false = eqP p q := by
  cases he : eqP p q
  · rfl
  · exact absurd (eqPIff.1 he) h
theorem eqPSelf (p : Prg) : eqP p p = true := eqPIff.2 rfl
theorem sameSTo {l m : List ByteArray} (h : sameS l m = true) : l = m := of_decide_eq_true h
theorem sameSNo {l m : List ByteArray} (h : sameS l m = false) : l ≠ m := of_decide_eq_false h
/-- What the loops of Equal know. -/
def UpTo {α : Type} (l m : List α) (k : Nat) : Prop := ∀ j (h1 : j < l.length) (h2 : j < m.length), j < k → l[j] = m[j]
theorem UpTo.zero {α : Type} {l m : List α} : UpTo l m 0 := fun _ _ _ h => by omega
theorem UpTo.succ {α : Type} {l m : List α} {k : Nat} (h : UpTo l m k) (h1 : k < l.length) (h2 : k < m.length) (e : l[k] = m[k]) : UpTo l m (k + 1) := fun j j1 j2 hj => by
  rcases Nat.lt_or_ge j k with h' | h'
  · exact h j j1 j2 h'
  · have e' : j = k := by omega
    subst e'
    exact e
theorem UpTo.eq {α : Type} {l m : List α} {k : Nat} (h : UpTo l m k) (hl : l.length = m.length) (hk : l.length ≤ k) : l = m := List.ext_getElem hl fun j h1 h2 => h j h1 h2 (by omega)
set_option maxRecDepth 100000 in
set_option maxHeartbeats 4000000 in
theorem rEqual {a b : PgA} {p q : Prg} (w : World) (hP : PgW w a p) (hQ : PgW w b q) : Calls Tryz.prog 17 #[a.val, b.val] w fun e w' => e = .returned (.bool (eqP p q)) ∧ Below w.heap.size w w' := by
  obtain ⟨r, hr⟩ : ∃ r, eqP p q = r := ⟨_, rfl⟩
  rw [hr]
  have HNO : Hid (p ≠ q → false = r) := Lib.hid fun h => (eqPNo h).trans hr
  have HYES : Hid (p = q → true = r) := Lib.hid fun h => (eqPIff.2 h).symm.trans hr
  obtain ⟨W, hW⟩ : ∃ W, (w.alloc (.cells a.fs 43)).alloc (.cells b.fs 43) = W := ⟨_, rfl⟩
  have hbW : Below w.heap.size w W := by rw [← hW]; exact belowThen (belowAlloc _ _) (belowAlloc _ _)
  have hk1 : PBox W w.heap.size a := by rw [← hW]; exact (Blk.new w _ _).alloc _
  have hk2 : PBox W (w.heap.size + 1) b := by rw [← hW]; exact Blk.new1 w _ _ _
  have HBW := Lib.hid hbW
  have HW := Lib.hid hW
  have HK := Lib.hid (fun X (hX : Below W.heap.size W X) => (hk1.below hX).facts)
  have HK2 := Lib.hid (fun X (hX : Below W.heap.size W X) => (hk2.below hX).facts)
  have hpW := hP.below hbW
  have hqW := hQ.below hbW
  have HV := Lib.hid (fun X (hX : Below W.heap.size W X) k (hk : k < p.vars.length) => (hpW.below hX).vars.one hk)
  have HV2 := Lib.hid (fun X (hX : Below W.heap.size W X) k (hk : k < q.vars.length) => (hqW.below hX).vars.one hk)
  have HF := Lib.hid (fun X (hX : Below W.heap.size W X) k (hk : k < p.funcs.length) => (hpW.below hX).funcs.one hk)
  have HF2 := Lib.hid (fun X (hX : Below W.heap.size W X) k (hk : k < q.funcs.length) => (hqW.below hX).funcs.one hk)
  have HT := Lib.hid (fun X (hX : Below W.heap.size W X) k (hk : k < p.thr.length) => (hpW.below hX).thr.one hk)
  have HT2 := Lib.hid (fun X (hX : Below W.heap.size W X) k (hk : k < q.thr.length) => (hqW.below hX).thr.one hk)
  have HM := Lib.hid (fun X (hX : Below W.heap.size W X) => rSameS p.muts q.muts a.n2 b.n2 hP.l2 hQ.l2 a.A2 b.A2 a.c2 b.c2 X (rdsOf (hpW.below hX).muts) (rdsOf (hqW.below hX).muts))
  have HC := Lib.hid (fun X (hX : Below W.heap.size W X) => rSameS p.conds q.conds a.n3 b.n3 hP.l3 hQ.l3 a.A3 b.A3 a.c3 b.c3 X (rdsOf (hpW.below hX).conds) (rdsOf (hqW.below hX).conds))
  have HL1 := Lib.hid (And.intro hP.l1 hQ.l1)
  have HL2 := Lib.hid (And.intro hP.l2 hQ.l2)
  have HL3 := Lib.hid (And.intro hP.l3 hQ.l3)
  have HL4 := Lib.hid (And.intro hP.l4 hQ.l4)
  have HL5 := Lib.hid (And.intro hP.l5 hQ.l5)
  have u1 := hP.vars.le
  have u2 := hP.vars.max
  have u3 := hP.funcs.le
  have u4 := hP.funcs.max
  have u5 := hP.thr.le
  have u6 := hP.thr.max
  have v1 := hQ.vars.le
  have v2 := hQ.vars.max
  have v3 := hQ.funcs.le
  have v4 := hQ.funcs.max
  have v5 := hQ.thr.le
  have v6 := hQ.thr.max
  rw [hP.l1] at u1
  rw [hP.l4] at u3
  rw [hP.l5] at u5
  rw [hQ.l1] at v1
  rw [hQ.l4] at v3
  rw [hQ.l5] at v5
  unfold maxLen at u2 u4 u6 v2 v4 v6
  obtain ⟨A1, n1, c1, A2, n2, c2, A3, n3, c3, A4, n4, c4, A5, n5, c5⟩ := a
  obtain ⟨B1, m1, d1, B2, m2, d2, B3, m3, d3, B4, m4, d4, B5, m5, d5⟩ := b
  simp only [PgA.val, PgA.fs] at *
  clear hr hP hQ hpW hqW hk1 hk2 hbW hW
  have hb0 := Below.refl W.heap.size W
  obtain ⟨e1, he1⟩ : ∃ e, sameS p.muts q.muts = e := ⟨_, rfl⟩
  obtain ⟨e2, he2⟩ : ∃ e, sameS p.conds q.conds = e := ⟨_, rfl⟩
  rw [he1] at HM
  rw [he2] at HC
  have HE1 := Lib.hid he1
  have HE2 := Lib.hid he2
  clear he1 he2
  -- the five lengths and lists
  by_cases h1 : n1 = m1
  rotate_left
  · have HX := Lib.hid (HNO.out fun e => h1 (by rw [← HL1.out.1, ← HL1.out.2, e]))
    have hne : ((n1 : Int) != (m1 : Int)) = true := by simp; omega
    have hne2 : decide (n1 = m1) = false := by simpa using h1
    go_enter Tryz.func17, Tryz.ntmps17
    go_wp2
    all_goals first
      | (exfalso; omega)
      | (go_ret; exact ⟨retBl HX.out, by rw [HW.out]; exact HBW.out⟩)
  subst h1
  obtain ⟨f0, f1, f2, f3, f4⟩ := HK.out W hb0
  obtain ⟨g0, g1, g2, g3, g4⟩ := HK2.out W hb0
  cases e1
  · have HX := Lib.hid (HNO.out fun e => sameSNo HE1.out (by rw [e]))
    go_enter Tryz.func17, Tryz.ntmps17
    go_wp2_with fail
    rw [HW.out]
    go_wp2_with (go_at_call 42; refine (HM.out W hb0).mono ?_; rintro e w1 ⟨rfl, b1⟩)
    all_goals first
      | (exfalso; omega)
      | (go_ret; exact ⟨retBl HX.out, belowThen HBW.out ‹Below W.heap.size W _›⟩)
  cases e2
  · have HX := Lib.hid (HNO.out fun e => sameSNo HE2.out (by rw [e]))
    go_enter Tryz.func17, Tryz.ntmps17
    go_wp2_with fail
    rw [HW.out]
    go_wp2_with fail
    refine (HM.out W hb0).mono ?_
    rintro e w1 ⟨rfl, b1⟩
    obtain ⟨x0, x1, x2, x3, x4⟩ := HK.out w1 b1
    obtain ⟨y0, y1, y2, y3, y4⟩ := HK2.out w1 b1
    go_wp2_with fail
    refine (HC.out w1 b1).mono ?_
    rintro e w2 ⟨rfl, b2⟩
    have HB2 := Lib.hid (belowThen HBW.out (belowThen b1 b2))
    go_wp2
    all_goals first
      | (exfalso; omega)
      | (go_ret; exact ⟨retBl HX.out, HB2.out⟩)
  go_enter Tryz.func17, Tryz.ntmps17
  go_wp2_with fail
  rw [HW.out]
  go_wp2_with fail
  refine (HM.out W hb0).mono ?_
  rintro e w1 ⟨rfl, b1⟩
  obtain ⟨x0, x1, x2, x3, x4⟩ := HK.out w1 b1
  obtain ⟨y0, y1, y2, y3, y4⟩ := HK2.out w1 b1
  clear f0 f1 f2 f3 f4 g0 g1 g2 g3 g4
  go_wp2_with fail
  refine (HC.out w1 b1).mono ?_
  rintro e w2 ⟨rfl, b2⟩
  have B2 := Lib.hid (belowThen b1 b2)
  clear x0 x1 x2 x3 x4 y0 y1 y2 y3 y4 b1 b2
  obtain ⟨x0, x1, x2, x3, x4⟩ := HK.out w2 B2.out
  obtain ⟨y0, y1, y2, y3, y4⟩ := HK2.out w2 B2.out
  by_cases h4 : n4 = m4
  rotate_left
  · have HX := Lib.hid (HNO.out fun e => h4 (by rw [← HL4.out.1, ← HL4.out.2, e]))
    have hne : ((n4 : Int) != (m4 : Int)) = true := by simp; omega
    have hne2 : decide (n4 = m4) = false := by simpa using h4
    go_wp2
    all_goals first
      | (exfalso; omega)
      | (go_ret; exact ⟨retBl HX.out, belowThen HBW.out B2.out⟩)
  subst h4
  by_cases h5 : n5 = m5
  rotate_left
  · have HX := Lib.hid (HNO.out fun e => h5 (by rw [← HL5.out.1, ← HL5.out.2, e]))
    have hne : ((n5 : Int) != (m5 : Int)) = true := by simp; omega
    have hne2 : decide (n5 = m5) = false := by simpa using h5
    go_wp2
    all_goals first
      | (exfalso; omega)
      | (go_ret; exact ⟨retBl HX.out, belowThen HBW.out B2.out⟩)
  subst h5
  go_wp2
  go_loopw [5] (fun i wr => ∃ j : Nat, j ≤ n1 ∧ i = .int .i64 j ∧ Below W.heap.size W wr ∧ Hid (UpTo p.vars q.vars j)) (fun i _ => n1 - (intOf i).toNat)
  case atStart => exact ⟨0, Nat.zero_le _, rfl, B2.out, Lib.hid UpTo.zero⟩
  case round =>
    clear x0 x1 x2 x3 x4 y0 y1 y2 y3 y4
    obtain ⟨j, hj, rfl, hb, HU⟩ := hrel
    obtain ⟨x0, x1, x2, x3, x4⟩ := HK.out wr hb
    obtain ⟨y0, y1, y2, y3, y4⟩ := HK2.out wr hb
    by_cases hlt : j < n1
    · have h1 : j < p.vars.length := by rw [HL1.out.1]; exact hlt
      have h2 : j < q.vars.length := by rw [HL1.out.2]; exact hlt
      obtain ⟨z, o, hA, _, hs1, hx1⟩ := HV.out wr hb j h1
      obtain ⟨z', o', hB, _, hs2, hx2⟩ := HV2.out wr hb j h2
      have hA : A1 = _ := hA
      have hB : B1 = _ := hB
      subst hA hB
      have hj0 : (0 : Int) ≤ j := by omega
      have hj1 : (j : Int) < n1 := by omega
      have HN2 := Lib.hid (fun nq => belowDrewN hb nq)
      obtain ⟨⟨s, x⟩, hx⟩ : ∃ x, p.vars[j] = x := ⟨_, rfl⟩
      obtain ⟨⟨t, y⟩, hy⟩ : ∃ y, q.vars[j] = y := ⟨_, rfl⟩
      rw [hx] at hs1 hx1
      rw [hy] at hs2 hx2
      simp only at hs1 hx1 hs2 hx2
      have HQ := fun X => eqVarIs s t x y X
      cases he : (sEq s t && x == y)
      · have HX := Lib.hid (HNO.out fun e => by
          have h3 : p.vars[j] = q.vars[j] := by simp only [e]
          rw [hx, hy] at h3
          injection h3 with h3 h4
          subst h3 h4
          rw [Bool.and_eq_false_iff] at he
          rcases he with he | he
          · rw [sEqIff] at he; simp at he
          · simp at he)
        rw [he] at HQ
        clear he hx hy h1 h2
        go_wp2_with fail
        go_quiet (fail)
        go_wp2
        go_ret
        exact ⟨retBl HX.out, belowThen HBW.out (HN2.out _)⟩
      · have HX := Lib.hid (HU.out.succ h1 h2 (by
          rw [Bool.and_eq_true] at he
          rw [hx, hy, sEqTo he.1, of_decide_eq_true (show decide (x = y) = true from he.2)]))
        rw [he] at HQ
        clear he hx hy h1 h2
        go_wp2_with fail
        go_quiet (fail)
        go_wp2
        go_roundw
        case rel => exact ⟨j + 1, by omega, by go_num, HN2.out _, HX⟩
        case measure => simp [intOf]; omega
    · have HV3 := Lib.hid (HU.out.eq (HL1.out.1.trans HL1.out.2.symm) (by rw [HL1.out.1]; show n1 ≤ j; omega))
      go_wp2
      go_loopw [6] (fun i wr => ∃ j : Nat, j ≤ n4 ∧ i = .int .i64 j ∧ Below W.heap.size W wr ∧ Hid (UpTo p.funcs q.funcs j)) (fun i _ => n4 - (intOf i).toNat)
      case atStart => exact ⟨0, Nat.zero_le _, rfl, hb, Lib.hid UpTo.zero⟩
      case round =>
        clear x0 x1 x2 x3 x4 y0 y1 y2 y3 y4 hb HU
        obtain ⟨j, hj, rfl, hb, HU⟩ := hrel
        obtain ⟨x0, x1, x2, x3, x4⟩ := HK.out wr hb
        obtain ⟨y0, y1, y2, y3, y4⟩ := HK2.out wr hb
        by_cases hlt : j < n4
        · have h1 : j < p.funcs.length := by rw [HL4.out.1]; exact hlt
          have h2 : j < q.funcs.length := by rw [HL4.out.2]; exact hlt
          obtain ⟨z, o, hA, _, hs1, v, hv, Ac, nc, cc, rfl, hnc, hrc⟩ := HF.out wr hb j h1
          obtain ⟨z', o', hB, _, hs2, v', hv', Bc, mc, dc, rfl, hmc, hrd⟩ := HF2.out wr hb j h2
          have hA : A4 = _ := hA
          have hB : B4 = _ := hB
          subst hA hB
          have hj0 : (0 : Int) ≤ j := by omega
          have hj1 : (j : Int) < n4 := by omega
          have HFN := Lib.hid (fun Y (hY : Below wr.heap.size wr Y) => rFun8 p.funcs[j] q.funcs[j] nc mc hnc hmc Ac Bc cc dc Y (hrc.below stabI hY) (hrd.below stabI hY))
          have HKP : Hid (∀ Y, Below wr.heap.size wr Y → Below wr.heap.size wr Y ∧ Y.cell? ⟨z, o + j * 2, none⟩ = some (.string (p.funcs[j]).1) ∧ Y.cell? ⟨z, o + j * 2 + 1, none⟩ = some (.slice Ac nc cc) ∧ Y.cell? ⟨z', o' + j * 2, none⟩ = some (.string (q.funcs[j]).1) ∧ Y.cell? ⟨z', o' + j * 2 + 1, none⟩ = some (.slice Bc mc dc) ∧ Y.cell? ⟨w.heap.size, 3, none⟩ = some (.slice (some ⟨z, o, none⟩) n4 c4) ∧ Y.cell? ⟨w.heap.size + 1, 3, none⟩ = some (.slice (some ⟨z', o', none⟩) n4 d4)) := Lib.hid fun Y hY => ⟨hY, (hY.cell (World.block_lt_of_cell? _ _ hs1)).trans hs1, (hY.cell (World.block_lt_of_cell? _ _ hv)).trans hv, (hY.cell (World.block_lt_of_cell? _ _ hs2)).trans hs2, (hY.cell (World.block_lt_of_cell? _ _ hv')).trans hv', (HK.out Y (belowThen hb hY)).2.2.2.1, (HK2.out Y (belowThen hb hY)).2.2.2.1⟩
          have hbd : Below wr.heap.size wr wr.drew := (Below.refl _ wr).drew
          obtain ⟨en, hen⟩ : ∃ e, sameFn p.funcs[j] q.funcs[j] = e := ⟨_, rfl⟩
          rw [hen] at HFN
          have HBJ := Lib.hid hb
          have HXE := Lib.hid hen
          generalize (p.funcs[j]).1 = s at hs1 HFN HKP
          generalize (q.funcs[j]).1 = t at hs2 HFN HKP
          clear hnc hmc hrc hrd hen x0 x1 x2 x4 y0 y1 y2 y4 hs1 hv hs2 hv' hb
          cases en
          · have HX := Lib.hid (HNO.out fun e => by
              have h3 := HXE.out
              unfold sameFn at h3
              exact of_decide_eq_false h3 (by simp only [e]))
            clear HXE h1 h2
            go_wp2_with fail
            go_region_held3 (fun w' => Below wr.heap.size wr w' ∧ w'.cell? ⟨z, o + j * 2, none⟩ = some (.string s) ∧ w'.cell? ⟨z, o + j * 2 + 1, none⟩ = some (.slice Ac nc cc) ∧ w'.cell? ⟨z', o' + j * 2, none⟩ = some (.string t) ∧ w'.cell? ⟨z', o' + j * 2 + 1, none⟩ = some (.slice Bc mc dc) ∧ w'.cell? ⟨w.heap.size, 3, none⟩ = some (.slice (some ⟨z, o, none⟩) n4 c4) ∧ w'.cell? ⟨w.heap.size + 1, 3, none⟩ = some (.slice (some ⟨z', o', none⟩) n4 d4))
              (first
                | with_reducible assumption
                | with_reducible exact HKP.out _ hbd
                | exact HKP.out _ (belowThen hbd bk))
              (first | (go_at_call 43; refine (HFN.out _ (‹Below wr.heap.size wr _ ∧ _›).1).mono ?_; rintro e wa ⟨rfl, bk⟩))
            have hall := ‹Below wr.heap.size wr _ ∧ _›
            have HB5 := Lib.hid hall.1
            clear hall x3 y3
            go_wp2
            go_ret
            exact ⟨retBl HX.out, belowThen HBW.out (belowThen HBJ.out HB5.out)⟩
          · have HX := Lib.hid (HU.out.succ h1 h2 (by
              have h3 := HXE.out
              unfold sameFn at h3
              exact of_decide_eq_true h3))
            clear HXE h1 h2
            go_wp2_with fail
            go_region_held3 (fun w' => Below wr.heap.size wr w' ∧ w'.cell? ⟨z, o + j * 2, none⟩ = some (.string s) ∧ w'.cell? ⟨z, o + j * 2 + 1, none⟩ = some (.slice Ac nc cc) ∧ w'.cell? ⟨z', o' + j * 2, none⟩ = some (.string t) ∧ w'.cell? ⟨z', o' + j * 2 + 1, none⟩ = some (.slice Bc mc dc) ∧ w'.cell? ⟨w.heap.size, 3, none⟩ = some (.slice (some ⟨z, o, none⟩) n4 c4) ∧ w'.cell? ⟨w.heap.size + 1, 3, none⟩ = some (.slice (some ⟨z', o', none⟩) n4 d4))
              (first
                | with_reducible assumption
                | with_reducible exact HKP.out _ hbd
                | exact HKP.out _ (belowThen hbd bk))
              (first | (go_at_call 43; refine (HFN.out _ (‹Below wr.heap.size wr _ ∧ _›).1).mono ?_; rintro e wa ⟨rfl, bk⟩))
            have hall := ‹Below wr.heap.size wr _ ∧ _›
            have HB5 := Lib.hid hall.1
            clear hall x3 y3
            go_wp2
            go_roundw
            case rel => exact ⟨j + 1, by omega, by go_num, belowThen HBJ.out HB5.out, HX⟩
            case measure => simp [intOf]; omega
        · have HF3 := Lib.hid (HU.out.eq (HL4.out.1.trans HL4.out.2.symm) (by rw [HL4.out.1]; show n4 ≤ j; omega))
          go_wp2
          go_loopw [7] (fun i wr => ∃ j : Nat, j ≤ n5 ∧ i = .int .i64 j ∧ Below W.heap.size W wr ∧ Hid (UpTo p.thr q.thr j)) (fun i _ => n5 - (intOf i).toNat)
          case atStart => exact ⟨0, Nat.zero_le _, rfl, hb, Lib.hid UpTo.zero⟩
          case round =>
            clear x0 x1 x2 x3 x4 y0 y1 y2 y3 y4 hb HU
            obtain ⟨j, hj, rfl, hb, HU⟩ := hrel
            obtain ⟨x0, x1, x2, x3, x4⟩ := HK.out wr hb
            obtain ⟨y0, y1, y2, y3, y4⟩ := HK2.out wr hb
            by_cases hlt : j < n5
            · have h1 : j < p.thr.length := by rw [HL5.out.1]; exact hlt
              have h2 : j < q.thr.length := by rw [HL5.out.2]; exact hlt
              obtain ⟨z, o, hA, _, hs1, hx1⟩ := HT.out wr hb j h1
              obtain ⟨z', o', hB, _, hs2, hx2⟩ := HT2.out wr hb j h2
              have hA : A5 = _ := hA
              have hB : B5 = _ := hB
              subst hA hB
              have hj0 : (0 : Int) ≤ j := by omega
              have hj1 : (j : Int) < n5 := by omega
              have HN2 := Lib.hid (fun nq => belowDrewN hb nq)
              obtain ⟨⟨s, x⟩, hx⟩ : ∃ x, p.thr[j] = x := ⟨_, rfl⟩
              obtain ⟨⟨t, y⟩, hy⟩ : ∃ y, q.thr[j] = y := ⟨_, rfl⟩
              rw [hx] at hs1 hx1
              rw [hy] at hs2 hx2
              simp only at hs1 hx1 hs2 hx2
              have HQ := fun X => eqStartIs s t x y X
              cases he : (s == t && x == y)
              · have HX := Lib.hid (HNO.out fun e => by
                  have h3 : p.thr[j] = q.thr[j] := by simp only [e]
                  rw [hx, hy] at h3
                  injection h3 with h3 h4
                  subst h3 h4
                  simp at he)
                rw [he] at HQ
                clear he hx hy h1 h2
                go_wp2_with fail
                go_quiet (fail)
                go_wp2
                go_ret
                exact ⟨retBl HX.out, belowThen HBW.out (HN2.out _)⟩
              · have HX := Lib.hid (HU.out.succ h1 h2 (by
                  rw [Bool.and_eq_true] at he
                  rw [hx, hy, of_decide_eq_true (show decide (s = t) = true from he.1), of_decide_eq_true (show decide (x = y) = true from he.2)]))
                rw [he] at HQ
                clear he hx hy h1 h2
                go_wp2_with fail
                go_quiet (fail)
                go_wp2
                go_roundw
                case rel => exact ⟨j + 1, by omega, by go_num, HN2.out _, HX⟩
                case measure => simp [intOf]; omega
            · have HX := Lib.hid (HYES.out (by
                have e5 := HU.out.eq (HL5.out.1.trans HL5.out.2.symm) (by rw [HL5.out.1]; show n5 ≤ j; omega)
                have e4 := HF3.out
                have e1 := HV3.out
                have e2 := sameSTo HE1.out
                have e3 := sameSTo HE2.out
                obtain ⟨v, m, c, f, t⟩ := p
                obtain ⟨v', m', c', f', t'⟩ := q
                simp only at e1 e2 e3 e4 e5
                rw [e1, e2, e3, e4, e5]))
              go_wp2
              go_ret
              exact ⟨retBl HX.out, belowThen HBW.out hb⟩
end Go.Proofs.YtpkagpobobmnfaaGreatDoor
