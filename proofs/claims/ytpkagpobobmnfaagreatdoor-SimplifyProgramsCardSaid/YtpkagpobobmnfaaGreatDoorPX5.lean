/-
  The specification's Size, and its comparison of two lists of names.
-/
import Derived.Test.YtpkagpobobmnfaaGreatDoorPYz
import Derived.Test.YtpkagpobobmnfaaGreatDoorPPgX
import Derived.Test.YtpkagpobobmnfaaGreatDoorPMk
import Derived.Test.YtpkagpobobmnfaaGreatDoorPG3
import Derived.Test.YtpkagpobobmnfaaGreatDoorPPk
import Derived.BigQuiet
import Derived.Test.YtpkagpobobmnfaaGreatDoorPIU
import Derived.Laws.StructEq
namespace Go.Proofs.YtpkagpobobmnfaaGreatDoor
open Go Go.RowKit

/-- Are two lists of names equal? -/
def sameS (l m : List ByteArray) : Bool := decide (l = m)
theorem sameLen {l m : List ByteArray} (h : l.length ≠ m.length) : false = sameS l m := by
  unfold sameS
  rw [decide_eq_false fun e => h (by rw [e])]
theorem sameNo {l m : List ByteArray} {k : Nat} (h1 : k < l.length) (h2 : k < m.length) (h : sEq l[k] m[k] = false) : false = sameS l m := by
  unfold sameS
  rw [decide_eq_false fun e => ?_]
  subst e
  rw [sEqIff] at h
  simp at h
theorem sEqTo {x y : ByteArray} (h : sEq x y = true) : x = y := by
  rw [sEqIff] at h
  exact baExt (of_decide_eq_true h)
theorem sameYes {l m : List ByteArray} (hl : l.length = m.length) (h : ∀ k (h1 : k < l.length) (h2 : k < m.length), l[k] = m[k]) : true = sameS l m := by
  unfold sameS
  rw [decide_eq_true (List.ext_getElem hl fun k h1 h2 => h k h1 h2)]
set_option maxHeartbeats 2000000 in
theorem rSameS (l m : List ByteArray) (n k : Nat) (hn : l.length = n) (hm : m.length = k) (A B : Option Addr) (c d : Nat) (w : World) (ha : Rds w A c (sv l)) (hb : Rds w B d (sv m)) :
    Calls Tryz.prog 42 #[.slice A n c, .slice B k d] w fun e w' => e = .returned (.bool (sameS l m)) ∧ Below w.heap.size w w' := by
  obtain ⟨r, hr⟩ : ∃ r, sameS l m = r := ⟨_, rfl⟩
  rw [hr]
  have HR := Lib.hid hr
  have HA := Lib.hid (fun X (hX : Below w.heap.size w X) j (hj : j < l.length) => svOne (ha.below hX) hj)
  have HB := Lib.hid (fun X (hX : Below w.heap.size w X) j (hj : j < m.length) => svOne (hb.below hX) hj)
  have HN := Lib.hid hn
  have HM := Lib.hid hm
  have g1 := ha.le
  have g2 := ha.max
  have g3 := hb.le
  have g4 := hb.max
  simp only [sv, List.length_map] at g1 g3
  rw [hn] at g1
  rw [hm] at g3
  unfold maxLen at g2 g4
  clear hr ha hb hn hm
  by_cases hnk : n = k
  rotate_left
  · have HX := Lib.hid ((sameLen (l := l) (m := m) (by rw [HN.out, HM.out]; exact hnk)).trans HR.out)
    have hne : ((n : Int) != (k : Int)) = true := by simp; omega
    have hne2 : decide (n = k) = false := by simpa using hnk
    have hb0 := Below.refl w.heap.size w
    go_enter Tryz.func42, Tryz.ntmps42
    go_wp2
    all_goals first
      | (exfalso; omega)
      | (go_ret; exact ⟨retBl HX.out, hb0⟩)
  subst hnk
  go_enter Tryz.func42, Tryz.ntmps42
  go_wp2
  go_loopw [5] (fun i wr => ∃ j : Nat, j ≤ n ∧ i = .int .i64 j ∧ Below w.heap.size w wr ∧ Hid (∀ t (h1 : t < l.length) (h2 : t < m.length), t < j → l[t] = m[t])) (fun i _ => n - (intOf i).toNat)
  case atStart => exact ⟨0, Nat.zero_le _, rfl, Below.refl _ _, Lib.hid fun t _ _ h => by omega⟩
  case round =>
    obtain ⟨j, hj, rfl, hb, HE⟩ := hrel
    by_cases hlt : j < n
    · have h1 : j < l.length := by rw [HN.out]; exact hlt
      have h2 : j < m.length := by rw [HM.out]; exact hlt
      obtain ⟨ad, hA, _, hc⟩ := HA.out wr hb j h1
      obtain ⟨bd, hB, _, hd⟩ := HB.out wr hb j h2
      subst hA hB
      have hj0 : (0 : Int) ≤ j := by omega
      have hj1 : (j : Int) < n := by omega
      have HN2 := Lib.hid (fun nq => belowDrewN hb nq)
      cases he : sEq l[j] m[j]
      · have HX := Lib.hid ((sameNo h1 h2 he).trans HR.out)
        generalize l[j] = x at hc he
        generalize m[j] = y at hd he
        unfold sEq at he
        go_wp2_with fail
        go_quiet (fail)
        go_wp2
        go_ret
        exact ⟨retBl HX.out, HN2.out _⟩
      · have HX : Hid (∀ t (h1 : t < l.length) (h2 : t < m.length), t < j + 1 → l[t] = m[t]) := Lib.hid fun t t1 t2 hlt2 => by
          rcases Nat.lt_or_ge t j with h' | h'
          · exact HE.out t t1 t2 h'
          · have e : t = j := by omega
            subst e
            exact sEqTo he
        generalize l[j] = x at hc he
        generalize m[j] = y at hd he
        unfold sEq at he
        go_wp2_with fail
        go_quiet (fail)
        go_wp2
        go_roundw
        case rel => exact ⟨j + 1, by omega, by go_num, HN2.out _, HX⟩
        case measure => simp [intOf]; omega
    · have HX := Lib.hid ((sameYes (l := l) (m := m) (by rw [HN.out, HM.out]) fun t h1 h2 => HE.out t h1 h2 (by rw [HN.out] at h1; omega)).trans HR.out)
      go_wp2
      go_ret
      exact ⟨retBl HX.out, hb⟩
end Go.Proofs.YtpkagpobobmnfaaGreatDoor

namespace Go.Proofs.YtpkagpobobmnfaaGreatDoor
open Go Go.RowKit

/-- What the comparison of two instructions tells. -/
def i8Eq (i j : I8) : Bool := i.op == j.op && (i.a == j.a && (i.b == j.b && (i.c == j.c && (i.obj == j.obj && (i.n == j.n && (i.fn == j.fn && (i.ord == j.ord)))))))
theorem i8EqIff (i j : I8) : i8Eq i j = decide (i = j) := by
  rw [Bool.eq_iff_iff, decide_eq_true_iff]
  unfold i8Eq
  obtain ⟨x0, x1, x2, x3, x4, x5, x6, x7⟩ := i
  obtain ⟨y0, y1, y2, y3, y4, y5, y6, y7⟩ := j
  simp
set_option maxRecDepth 100000 in
set_option maxHeartbeats 2000000 in
theorem eqInstIs (x0 x1 x2 x3 x4 x5 x6 x7 y0 y1 y2 y3 y4 y5 y6 y7 : Int) (w : World) : (Op.equalIn 10000 55 (.agg #[.int .i64 x0, .int .i64 x1, .int .i64 x2, .int .i64 x3, .int .i64 x4, .int .i64 x5, .int .i64 x6, .int .i64 x7]) (.agg #[.int .i64 y0, .int .i64 y1, .int .i64 y2, .int .i64 y3, .int .i64 y4, .int .i64 y5, .int .i64 y6, .int .i64 y7])).run Tryz.prog w = .ok (x0 == y0 && (x1 == y1 && (x2 == y2 && (x3 == y3 && (x4 == y4 && (x5 == y5 && (x6 == y6 && (x7 == y7)))))))) w := by
  have hu := Tryz.underlying55
  rw [run_equalIn_struct w 9999 55 _ _ (by rw [Program.fieldsOf, hu]) (by kernel_rfl)]
  simp only [Program.fieldsOf, hu]
  have i0 := run_equalIn_int (P := Tryz.prog) w 9998 51 .i64 .i64 x0 y0 Tryz.underlying51
  have i1 := run_equalIn_int (P := Tryz.prog) w 9998 3 .i64 .i64 x1 y1 Tryz.underlying3
  have i2 := run_equalIn_int (P := Tryz.prog) w 9998 3 .i64 .i64 x2 y2 Tryz.underlying3
  have i3 := run_equalIn_int (P := Tryz.prog) w 9998 3 .i64 .i64 x3 y3 Tryz.underlying3
  have i4 := run_equalIn_int (P := Tryz.prog) w 9998 3 .i64 .i64 x4 y4 Tryz.underlying3
  have i5 := run_equalIn_int (P := Tryz.prog) w 9998 3 .i64 .i64 x5 y5 Tryz.underlying3
  have i6 := run_equalIn_int (P := Tryz.prog) w 9998 52 .i64 .i64 x6 y6 Tryz.underlying52
  have i7 := run_equalIn_int (P := Tryz.prog) w 9998 53 .i64 .i64 x7 y7 Tryz.underlying53
  have q0 : ∀ (a b c d e f g h : Value), (part 51 #[a, b, c, d, e, f, g, h] 0).run Tryz.prog w = .ok a w := fun a b c d e f g h => by kernel_rfl
  have q1 : ∀ (a b c d e f g h : Value), (part 3 #[a, b, c, d, e, f, g, h] 1).run Tryz.prog w = .ok b w := fun a b c d e f g h => by kernel_rfl
  have q2 : ∀ (a b c d e f g h : Value), (part 3 #[a, b, c, d, e, f, g, h] 2).run Tryz.prog w = .ok c w := fun a b c d e f g h => by kernel_rfl
  have q3 : ∀ (a b c d e f g h : Value), (part 3 #[a, b, c, d, e, f, g, h] 3).run Tryz.prog w = .ok d w := fun a b c d e f g h => by kernel_rfl
  have q4 : ∀ (a b c d e f g h : Value), (part 3 #[a, b, c, d, e, f, g, h] 4).run Tryz.prog w = .ok e w := fun a b c d e f g h => by kernel_rfl
  have q5 : ∀ (a b c d e f g h : Value), (part 3 #[a, b, c, d, e, f, g, h] 5).run Tryz.prog w = .ok f w := fun a b c d e f g h => by kernel_rfl
  have q6 : ∀ (a b c d e f g h : Value), (part 52 #[a, b, c, d, e, f, g, h] 6).run Tryz.prog w = .ok g w := fun a b c d e f g h => by kernel_rfl
  have q7 : ∀ (a b c d e f g h : Value), (part 53 #[a, b, c, d, e, f, g, h] 7).run Tryz.prog w = .ok h w := fun a b c d e f g h => by kernel_rfl
  generalize (x0 == y0) = b0 at *
  generalize (x1 == y1) = b1 at *
  generalize (x2 == y2) = b2 at *
  generalize (x3 == y3) = b3 at *
  generalize (x4 == y4) = b4 at *
  generalize (x5 == y5) = b5 at *
  generalize (x6 == y6) = b6 at *
  generalize (x7 == y7) = b7 at *
  cases b0
  · simp [Op.eqFields, q0, i0]
  cases b1
  · simp [Op.eqFields, q0, i0, q1, i1]
  cases b2
  · simp [Op.eqFields, q0, i0, q1, i1, q2, i2]
  cases b3
  · simp [Op.eqFields, q0, i0, q1, i1, q2, i2, q3, i3]
  cases b4
  · simp [Op.eqFields, q0, i0, q1, i1, q2, i2, q3, i3, q4, i4]
  cases b5
  · simp [Op.eqFields, q0, i0, q1, i1, q2, i2, q3, i3, q4, i4, q5, i5]
  cases b6
  · simp [Op.eqFields, q0, i0, q1, i1, q2, i2, q3, i3, q4, i4, q5, i5, q6, i6]
  cases b7 <;> simp [Op.eqFields, q0, i0, q1, i1, q2, i2, q3, i3, q4, i4, q5, i5, q6, i6, q7, i7]
end Go.Proofs.YtpkagpobobmnfaaGreatDoor

namespace Go.Proofs.YtpkagpobobmnfaaGreatDoor
open Go Go.RowKit

/-- Are two functions equal? -/
def sameFn (f g : ByteArray × List I8) : Bool := decide (f = g)
theorem fnLen {f g : ByteArray × List I8} (h : f.2.length ≠ g.2.length) : false = sameFn f g := by
  unfold sameFn
  rw [decide_eq_false fun e => h (by rw [e])]
theorem fnName {f g : ByteArray × List I8} (h : sEq f.1 g.1 = false) : false = sameFn f g := by
  unfold sameFn
  rw [decide_eq_false fun e => ?_]
  rw [e, sEqIff] at h
  simp at h
theorem fnNo {f g : ByteArray × List I8} {k : Nat} (h1 : k < f.2.length) (h2 : k < g.2.length) (h : i8Eq f.2[k] g.2[k] = false) : false = sameFn f g := by
  unfold sameFn
  rw [decide_eq_false fun e => ?_]
  subst e
  rw [i8EqIff] at h
  simp at h
theorem fnYes {f g : ByteArray × List I8} (hn : sEq f.1 g.1 = true) (hl : f.2.length = g.2.length) (h : ∀ k (h1 : k < f.2.length) (h2 : k < g.2.length), f.2[k] = g.2[k]) : true = sameFn f g := by
  unfold sameFn
  rw [decide_eq_true (Prod.ext (sEqTo hn) (List.ext_getElem hl fun k h1 h2 => h k h1 h2))]
theorem i8EqTo {x y : I8} (h : i8Eq x y = true) : x = y := by
  rw [i8EqIff] at h
  exact of_decide_eq_true h
theorem box2 {w : World} {b : Nat} {T : TypeId} {u v : Value} (h : Blk w b T #[u, v]) : w.cell? ⟨b, 0, none⟩ = some u ∧ w.cell? ⟨b, 1, none⟩ = some v := ⟨h.cell 0, h.cell 1⟩
set_option maxRecDepth 100000 in
set_option maxHeartbeats 2000000 in
theorem rFun8 (f g : ByteArray × List I8) (n m : Nat) (hn : f.2.length = n) (hm : g.2.length = m) (A B : Option Addr) (c d : Nat) (w : World) (ha : RdE 8 EI w A c f.2) (hb : RdE 8 EI w B d g.2) :
    Calls Tryz.prog 43 #[.agg #[.string f.1, .slice A n c], .agg #[.string g.1, .slice B m d]] w fun e w' => e = .returned (.bool (sameFn f g)) ∧ Below w.heap.size w w' := by
  obtain ⟨r, hr⟩ : ∃ r, sameFn f g = r := ⟨_, rfl⟩
  rw [hr]
  have HR := Lib.hid hr
  have HA := Lib.hid (fun X (hX : Below w.heap.size w X) j (hj : j < f.2.length) => (ha.below stabI hX).one hj)
  have HB := Lib.hid (fun X (hX : Below w.heap.size w X) j (hj : j < g.2.length) => (hb.below stabI hX).one hj)
  have HN := Lib.hid hn
  have HM := Lib.hid hm
  have g1 := ha.le
  have g2 := ha.max
  have g3 := hb.le
  have g4 := hb.max
  rw [hn] at g1
  rw [hm] at g3
  unfold maxLen at g2 g4
  obtain ⟨s, hs⟩ : ∃ s, f.1 = s := ⟨_, rfl⟩
  obtain ⟨t, ht⟩ : ∃ t, g.1 = t := ⟨_, rfl⟩
  have hS : f.1 = s ∧ g.1 = t := ⟨hs, ht⟩
  rw [hs, ht]
  have HS := Lib.hid hS
  clear hr ha hb hn hm hs ht hS
  obtain ⟨W, hW⟩ : ∃ W, (w.alloc (.cells #[.string s, .slice A n c] 24)).alloc (.cells #[.string t, .slice B m d] 24) = W := ⟨_, rfl⟩
  have hbW : Below w.heap.size w W := by rw [← hW]; exact belowThen (belowAlloc _ _) (belowAlloc _ _)
  have hk1 : Blk W w.heap.size 24 #[.string s, .slice A n c] := by rw [← hW]; exact (Blk.new w _ _).alloc _
  have hk2 : Blk W (w.heap.size + 1) 24 #[.string t, .slice B m d] := by rw [← hW]; exact Blk.new1 w _ _ _
  have HBW := Lib.hid hbW
  have HW := Lib.hid hW
  have HK := Lib.hid (fun X (hX : Below W.heap.size W X) => (box2 (hk1.below' hX)).2)
  have HK2 := Lib.hid (fun X (hX : Below W.heap.size W X) => (box2 (hk2.below' hX)).2)
  clear hbW hk1 hk2 hW
  cases hst : sEq s t
  · have HX := Lib.hid ((fnName (f := f) (g := g) (by rw [HS.out.1, HS.out.2]; exact hst)).trans HR.out)
    unfold sEq at hst
    go_enter Tryz.func43, Tryz.ntmps43
    go_wp2
    all_goals first
      | (exfalso; omega)
      | (go_ret; exact ⟨retBl HX.out, by rw [HW.out]; exact HBW.out⟩)
  · have HST := Lib.hid (show sEq f.1 g.1 = true by rw [HS.out.1, HS.out.2]; exact hst)
    unfold sEq at hst
    by_cases hnm : n = m
    rotate_left
    · have HX := Lib.hid ((fnLen (f := f) (g := g) (by rw [HN.out, HM.out]; exact hnm)).trans HR.out)
      have hne : ((n : Int) != (m : Int)) = true := by simp; omega
      have hne2 : decide (n = m) = false := by simpa using hnm
      go_enter Tryz.func43, Tryz.ntmps43
      go_wp2
      all_goals first
        | (exfalso; omega)
        | (go_ret; exact ⟨retBl HX.out, by rw [HW.out]; exact HBW.out⟩)
    · subst hnm
      go_enter Tryz.func43, Tryz.ntmps43
      go_wp2
      rw [HW.out]
      go_loopw [5] (fun i wr => ∃ j : Nat, j ≤ n ∧ i = .int .i64 j ∧ Below W.heap.size W wr ∧ Hid (∀ t (h1 : t < f.2.length) (h2 : t < g.2.length), t < j → f.2[t] = g.2[t])) (fun i _ => n - (intOf i).toNat)
      case atStart => exact ⟨0, Nat.zero_le _, rfl, Below.refl _ _, Lib.hid fun t _ _ h => by omega⟩
      case round =>
        obtain ⟨j, hj, rfl, hb, HE⟩ := hrel
        have k1 := HK.out wr hb
        have k2 := HK2.out wr hb
        by_cases hlt : j < n
        · have h1 : j < f.2.length := by rw [HN.out]; exact hlt
          have h2 : j < g.2.length := by rw [HM.out]; exact hlt
          obtain ⟨q, o, hA, _, hc⟩ := HA.out wr (belowThen HBW.out hb) j h1
          obtain ⟨q', o', hB, _, hd⟩ := HB.out wr (belowThen HBW.out hb) j h2
          subst hA hB
          have hj0 : (0 : Int) ≤ j := by omega
          have hj1 : (j : Int) < n := by omega
          have HN2 := Lib.hid (fun nq => belowDrewN hb nq)
          obtain ⟨x, hx⟩ : ∃ x, f.2[j] = x := ⟨_, rfl⟩
          obtain ⟨y, hy⟩ : ∃ y, g.2[j] = y := ⟨_, rfl⟩
          rw [hx] at hc
          rw [hy] at hd
          cases he : i8Eq x y
          · have HX := Lib.hid ((fnNo h1 h2 (by rw [hx, hy]; exact he)).trans HR.out)
            obtain ⟨x0, x1, x2, x3, x4, x5, x6, x7⟩ := x
            obtain ⟨y0, y1, y2, y3, y4, y5, y6, y7⟩ := y
            have HQ := fun X => eqInstIs x0 x1 x2 x3 x4 x5 x6 x7 y0 y1 y2 y3 y4 y5 y6 y7 X
            unfold i8Eq at he
            simp only at he
            rw [he] at HQ
            obtain ⟨p0, p1, p2, p3, p4, p5, p6, p7⟩ := hc
            obtain ⟨r0, r1, r2, r3, r4, r5, r6, r7⟩ := hd
            simp only at p0 p1 p2 p3 p4 p5 p6 p7 r0 r1 r2 r3 r4 r5 r6 r7
            clear he hx hy h1 h2
            go_wp2_with fail
            go_quiet (fail)
            go_wp2
            go_ret
            exact ⟨retBl HX.out, belowThen HBW.out (HN2.out _)⟩
          · have HX : Hid (∀ t (h1 : t < f.2.length) (h2 : t < g.2.length), t < j + 1 → f.2[t] = g.2[t]) := Lib.hid fun t t1 t2 hlt2 => by
              rcases Nat.lt_or_ge t j with h' | h'
              · exact HE.out t t1 t2 h'
              · have e : t = j := by omega
                subst e
                rw [hx, hy]
                exact i8EqTo he
            obtain ⟨x0, x1, x2, x3, x4, x5, x6, x7⟩ := x
            obtain ⟨y0, y1, y2, y3, y4, y5, y6, y7⟩ := y
            have HQ := fun X => eqInstIs x0 x1 x2 x3 x4 x5 x6 x7 y0 y1 y2 y3 y4 y5 y6 y7 X
            unfold i8Eq at he
            simp only at he
            rw [he] at HQ
            obtain ⟨p0, p1, p2, p3, p4, p5, p6, p7⟩ := hc
            obtain ⟨r0, r1, r2, r3, r4, r5, r6, r7⟩ := hd
            simp only at p0 p1 p2 p3 p4 p5 p6 p7 r0 r1 r2 r3 r4 r5 r6 r7
            clear he hx hy h1 h2
            go_wp2_with fail
            go_quiet (fail)
            go_wp2
            go_roundw
            case rel => exact ⟨j + 1, by omega, by go_num, HN2.out _, HX⟩
            case measure => simp [intOf]; omega
        · have HX := Lib.hid ((fnYes (f := f) (g := g) HST.out (by rw [HN.out, HM.out]) fun t h1 h2 => HE.out t h1 h2 (by rw [HN.out] at h1; omega)).trans HR.out)
          go_wp2
          go_ret
          exact ⟨retBl HX.out, belowThen HBW.out hb⟩
end Go.Proofs.YtpkagpobobmnfaaGreatDoor
