/-
  The specification's Size, and its comparison of two lists of names.
-/
import Derived.Test.YtkanamdfjegcbaaDoorOPhG
import Derived.Test.YtkanamdfjegcbaaDoorOPkA
import Derived.BigQuiet
import Derived.Test.YtkanamdfjegcbaaDoorOIU
import Derived.Laws.StructEq
namespace Go.Proofs.YtkanamdfjegcbaaDoor
open Go Go.RowKit

set_option maxHeartbeats 1000000 in
theorem rSize8 {a : PgA} {p : Prg} (w : World) (hP : PgW w a p) (hs : p.size ≤ 1000000) : Calls Tryd.prog 37 #[a.val] w fun e w' => e = .returned (.int .i64 (p.size : Int)) ∧ Below w.heap.size w w' := by
  have HF := Lib.hid (fun X (hX : Below w.heap.size w X) k (hk : k < p.funcs.length) => (hP.below hX).funcs.one hk)
  have HL := Lib.hid hP.l4
  have hle := hP.funcs.le
  have hm := hP.funcs.max
  rw [hP.l4] at hle
  unfold maxLen at hm
  have HSZ := Lib.hid (fun k => szLe p k)
  have HSU := Lib.hid (fun k (hk : k < p.funcs.length) => szSucc hk)
  have HSA := Lib.hid (fun k (hk : p.funcs.length ≤ k) => szAll (p := p) hk)
  obtain ⟨A1, n1, c1, A2, n2, c2, A3, n3, c3, A4, n4, c4, A5, n5, c5⟩ := a
  simp only [PgA.val, PgA.fs] at *
  have hb0 := belowAlloc w (.cells #[.slice A1 n1 c1, .slice A2 n2 c2, .slice A3 n3 c3, .slice A4 n4 c4, .slice A5 n5 c5] 54)
  have hz0 : p.szK 0 = 0 := rfl
  have HZ0 := Lib.hid hz0
  clear hP hz0
  go_enter Tryd.func37, Tryd.ntmps37
  go_wp2
  go_loopw [3, 4] (fun s i wr => ∃ k : Nat, k ≤ n4 ∧ i = .int .i64 k ∧ s = .int .i64 (p.szK k : Int) ∧ Below w.heap.size w wr ∧ wr.cell? ⟨w.heap.size, 3, none⟩ = some (.slice A4 n4 c4)) (fun _ i _ => n4 - (intOf i).toNat)
  case atStart => exact ⟨0, Nat.zero_le _, rfl, by rw [HZ0.out]; rfl, hb0, (Blk.new w _ _).cell 3⟩
  case round =>
    obtain ⟨k, hk, rfl, rfl, hb, c3⟩ := hrel
    by_cases hlt : k < n4
    · have hkl : k < p.funcs.length := by rw [HL.out]; exact hlt
      obtain ⟨q, off, hA, _, h1, v, h2, Ac, nc, cc, rfl, hnc, _⟩ := HF.out wr hb k hkl
      have hA : A4 = _ := hA
      subst hA
      have hs1 := HSZ.out k
      have hs2 := HSZ.out (k + 1)
      have hs3 := HSU.out k hkl
      rw [hnc] at hs3
      obtain ⟨m, hmk⟩ : ∃ m, p.szK k = m := ⟨_, rfl⟩
      obtain ⟨m', hmk'⟩ : ∃ m, p.szK (k + 1) = m := ⟨_, rfl⟩
      rw [hmk] at hs1 hs3 ⊢
      rw [hmk'] at hs2 hs3
      have HM := Lib.hid (And.intro hmk' hs3)
      have hle2 : m + nc ≤ 1000000 := by omega
      have hk0 : (0 : Int) ≤ k := by omega
      have hk1 : (k : Int) < n4 := by omega
      clear hmk hmk' hs1 hs2 hs3 hnc h1
      go_wp2
      go_roundw
      case rel => exact ⟨k + 1, by omega, by go_num, by rw [HM.out.1, HM.out.2]; go_num, hb, c3⟩
      case measure => simp [intOf]; omega
    · have HX := Lib.hid (HSA.out k (by rw [HL.out]; show n4 ≤ k; omega))
      go_wp2
      go_ret
      exact ⟨retIO (by rw [HX.out]), hb⟩
end Go.Proofs.YtkanamdfjegcbaaDoor

namespace Go.Proofs.YtkanamdfjegcbaaDoor
open Go Go.RowKit

/-- What the comparison of two instructions tells. -/
def i8Eq (i j : I8) : Bool := i.op == j.op && (i.a == j.a && (i.b == j.b && (i.c == j.c && (i.obj == j.obj && (i.n == j.n && (i.fn == j.fn && (i.ord == j.ord)))))))
theorem i8EqIff (i j : I8) : i8Eq i j = decide (i = j) := by
  rw [Bool.eq_iff_iff, decide_eq_true_iff]
  unfold i8Eq
  obtain ⟨x0, x1, x2, x3, x4, x5, x6, x7⟩ := i
  obtain ⟨y0, y1, y2, y3, y4, y5, y6, y7⟩ := j
  simp
set_option maxRecDepth 100000 in
set_option maxHeartbeats 2000000 in
theorem eqInstIs (x0 x1 x2 x3 x4 x5 x6 x7 y0 y1 y2 y3 y4 y5 y6 y7 : Int) (w : World) : (Op.equalIn 10000 44 (.agg #[.int .i64 x0, .int .i64 x1, .int .i64 x2, .int .i64 x3, .int .i64 x4, .int .i64 x5, .int .i64 x6, .int .i64 x7]) (.agg #[.int .i64 y0, .int .i64 y1, .int .i64 y2, .int .i64 y3, .int .i64 y4, .int .i64 y5, .int .i64 y6, .int .i64 y7])).run Tryd.prog w = .ok (x0 == y0 && (x1 == y1 && (x2 == y2 && (x3 == y3 && (x4 == y4 && (x5 == y5 && (x6 == y6 && (x7 == y7)))))))) w := by
  have hu := Tryd.underlying44
  rw [run_equalIn_struct w 9999 44 _ _ (by rw [Program.fieldsOf, hu]) (by kernel_rfl)]
  simp only [Program.fieldsOf, hu]
  have i0 := run_equalIn_int (P := Tryd.prog) w 9998 40 .i64 .i64 x0 y0 Tryd.underlying40
  have i1 := run_equalIn_int (P := Tryd.prog) w 9998 3 .i64 .i64 x1 y1 Tryd.underlying3
  have i2 := run_equalIn_int (P := Tryd.prog) w 9998 3 .i64 .i64 x2 y2 Tryd.underlying3
  have i3 := run_equalIn_int (P := Tryd.prog) w 9998 3 .i64 .i64 x3 y3 Tryd.underlying3
  have i4 := run_equalIn_int (P := Tryd.prog) w 9998 3 .i64 .i64 x4 y4 Tryd.underlying3
  have i5 := run_equalIn_int (P := Tryd.prog) w 9998 3 .i64 .i64 x5 y5 Tryd.underlying3
  have i6 := run_equalIn_int (P := Tryd.prog) w 9998 41 .i64 .i64 x6 y6 Tryd.underlying41
  have i7 := run_equalIn_int (P := Tryd.prog) w 9998 42 .i64 .i64 x7 y7 Tryd.underlying42
  have q0 : ∀ (a b c d e f g h : Value), (part 40 #[a, b, c, d, e, f, g, h] 0).run Tryd.prog w = .ok a w := fun a b c d e f g h => by kernel_rfl
  have q1 : ∀ (a b c d e f g h : Value), (part 3 #[a, b, c, d, e, f, g, h] 1).run Tryd.prog w = .ok b w := fun a b c d e f g h => by kernel_rfl
  have q2 : ∀ (a b c d e f g h : Value), (part 3 #[a, b, c, d, e, f, g, h] 2).run Tryd.prog w = .ok c w := fun a b c d e f g h => by kernel_rfl
  have q3 : ∀ (a b c d e f g h : Value), (part 3 #[a, b, c, d, e, f, g, h] 3).run Tryd.prog w = .ok d w := fun a b c d e f g h => by kernel_rfl
  have q4 : ∀ (a b c d e f g h : Value), (part 3 #[a, b, c, d, e, f, g, h] 4).run Tryd.prog w = .ok e w := fun a b c d e f g h => by kernel_rfl
  have q5 : ∀ (a b c d e f g h : Value), (part 3 #[a, b, c, d, e, f, g, h] 5).run Tryd.prog w = .ok f w := fun a b c d e f g h => by kernel_rfl
  have q6 : ∀ (a b c d e f g h : Value), (part 41 #[a, b, c, d, e, f, g, h] 6).run Tryd.prog w = .ok g w := fun a b c d e f g h => by kernel_rfl
  have q7 : ∀ (a b c d e f g h : Value), (part 42 #[a, b, c, d, e, f, g, h] 7).run Tryd.prog w = .ok h w := fun a b c d e f g h => by kernel_rfl
  generalize (x0 == y0) = b0 at *
  generalize (x1 == y1) = b1 at *
  generalize (x2 == y2) = b2 at *
  generalize (x3 == y3) = b3 at *
  generalize (x4 == y4) = b4 at *
  generalize (x5 == y5) = b5 at *
  generalize (x6 == y6) = b6 at *
  generalize (x7 == y7) = b7 at *
  cases b0
  · simp [Op.eqFields, q0, i0]
  cases b1
  · simp [Op.eqFields, q0, i0, q1, i1]
  cases b2
  · simp [Op.eqFields, q0, i0, q1, i1, q2, i2]
  cases b3
  · simp [Op.eqFields, q0, i0, q1, i1, q2, i2, q3, i3]
  cases b4
  · simp [Op.eqFields, q0, i0, q1, i1, q2, i2, q3, i3, q4, i4]
  cases b5
  · simp [Op.eqFields, q0, i0, q1, i1, q2, i2, q3, i3, q4, i4, q5, i5]
  cases b6
  · simp [Op.eqFields, q0, i0, q1, i1, q2, i2, q3, i3, q4, i4, q5, i5, q6, i6]
  cases b7 <;> simp [Op.eqFields, q0, i0, q1, i1, q2, i2, q3, i3, q4, i4, q5, i5, q6, i6, q7, i7]
end Go.Proofs.YtkanamdfjegcbaaDoor

namespace Go.Proofs.YtkanamdfjegcbaaDoor
open Go Go.RowKit

/-- Are two functions equal? -/
def sameFn (f g : ByteArray × List I8) : Bool := decide (f = g)
theorem fnNo {f g : ByteArray × List I8} {k : Nat} (h1 : k < f.2.length) (h2 : k < g.2.length) (h : i8Eq f.2[k] g.2[k] = false) : false = sameFn f g := by
  unfold sameFn
  rw [decide_eq_false fun e => ?_]
  subst e
  rw [i8EqIff] at h
  simp at h
end Go.Proofs.YtkanamdfjegcbaaDoor
