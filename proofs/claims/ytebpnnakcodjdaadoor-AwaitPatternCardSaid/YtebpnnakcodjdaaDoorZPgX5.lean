/-
  Two instructions compared as a whole, as a step of the walk.
-/
import Derived.Test.YtebpnnakcodjdaaDoorZIU
import Derived.Laws.StructEq
import Derived.Test.YtebpnnakcodjdaaDoorZPgY
import Derived.Test.YtebpnnakcodjdaaDoorZPgX
import Derived.Test.YtebpnnakcodjdaaDoorZMk
import Derived.Test.YtebpnnakcodjdaaDoorZPgZ
import Derived.Test.YtebpnnakcodjdaaDoorZInsE
import Derived.Test.YtebpnnakcodjdaaDoorZPkA
import Derived.BigQuiet
namespace Go.Proofs.YtebpnnakcodjdaaDoor
open Go Go.RowKit

/-- What the comparison of two instructions tells. -/
def i8Eq (i j : I8) : Bool := i.op == j.op && (i.a == j.a && (i.b == j.b && (i.c == j.c && (i.obj == j.obj && (i.n == j.n && (i.fn == j.fn && (i.ord == j.ord)))))))
theorem i8EqIff (i j : I8) : i8Eq i j = decide (i = j) := by
  rw [Bool.eq_iff_iff, decide_eq_true_iff]
  unfold i8Eq
  obtain ⟨x0, x1, x2, x3, x4, x5, x6, x7⟩ := i
  obtain ⟨y0, y1, y2, y3, y4, y5, y6, y7⟩ := j
  simp
set_option maxRecDepth 100000 in
set_option maxHeartbeats 2000000 in
theorem eqInstIs (x0 x1 x2 x3 x4 x5 x6 x7 y0 y1 y2 y3 y4 y5 y6 y7 : Int) (w : World) : (Op.equalIn 10000 47 (.agg #[.int .i64 x0, .int .i64 x1, .int .i64 x2, .int .i64 x3, .int .i64 x4, .int .i64 x5, .int .i64 x6, .int .i64 x7]) (.agg #[.int .i64 y0, .int .i64 y1, .int .i64 y2, .int .i64 y3, .int .i64 y4, .int .i64 y5, .int .i64 y6, .int .i64 y7])).run Tryd.prog w = .ok (x0 == y0 && (x1 == y1 && (x2 == y2 && (x3 == y3 && (x4 == y4 && (x5 == y5 && (x6 == y6 && (x7 == y7)))))))) w := by
  have hu := Tryd.underlying47
  rw [run_equalIn_struct w 9999 47 _ _ (by rw [Program.fieldsOf, hu]) (by kernel_rfl)]
  simp only [Program.fieldsOf, hu]
  have i0 := run_equalIn_int (P := Tryd.prog) w 9998 43 .i64 .i64 x0 y0 Tryd.underlying43
  have i1 := run_equalIn_int (P := Tryd.prog) w 9998 3 .i64 .i64 x1 y1 Tryd.underlying3
  have i2 := run_equalIn_int (P := Tryd.prog) w 9998 3 .i64 .i64 x2 y2 Tryd.underlying3
  have i3 := run_equalIn_int (P := Tryd.prog) w 9998 3 .i64 .i64 x3 y3 Tryd.underlying3
  have i4 := run_equalIn_int (P := Tryd.prog) w 9998 3 .i64 .i64 x4 y4 Tryd.underlying3
  have i5 := run_equalIn_int (P := Tryd.prog) w 9998 3 .i64 .i64 x5 y5 Tryd.underlying3
  have i6 := run_equalIn_int (P := Tryd.prog) w 9998 44 .i64 .i64 x6 y6 Tryd.underlying44
  have i7 := run_equalIn_int (P := Tryd.prog) w 9998 45 .i64 .i64 x7 y7 Tryd.underlying45
  have q0 : ∀ (a b c d e f g h : Value), (part 43 #[a, b, c, d, e, f, g, h] 0).run Tryd.prog w = .ok a w := fun a b c d e f g h => by kernel_rfl
  have q1 : ∀ (a b c d e f g h : Value), (part 3 #[a, b, c, d, e, f, g, h] 1).run Tryd.prog w = .ok b w := fun a b c d e f g h => by kernel_rfl
  have q2 : ∀ (a b c d e f g h : Value), (part 3 #[a, b, c, d, e, f, g, h] 2).run Tryd.prog w = .ok c w := fun a b c d e f g h => by kernel_rfl
  have q3 : ∀ (a b c d e f g h : Value), (part 3 #[a, b, c, d, e, f, g, h] 3).run Tryd.prog w = .ok d w := fun a b c d e f g h => by kernel_rfl
  have q4 : ∀ (a b c d e f g h : Value), (part 3 #[a, b, c, d, e, f, g, h] 4).run Tryd.prog w = .ok e w := fun a b c d e f g h => by kernel_rfl
  have q5 : ∀ (a b c d e f g h : Value), (part 3 #[a, b, c, d, e, f, g, h] 5).run Tryd.prog w = .ok f w := fun a b c d e f g h => by kernel_rfl
  have q6 : ∀ (a b c d e f g h : Value), (part 44 #[a, b, c, d, e, f, g, h] 6).run Tryd.prog w = .ok g w := fun a b c d e f g h => by kernel_rfl
  have q7 : ∀ (a b c d e f g h : Value), (part 45 #[a, b, c, d, e, f, g, h] 7).run Tryd.prog w = .ok h w := fun a b c d e f g h => by kernel_rfl
  generalize (x0 == y0) = b0 at *
  generalize (x1 == y1) = b1 at *
  generalize (x2 == y2) = b2 at *
  generalize (x3 == y3) = b3 at *
  generalize (x4 == y4) = b4 at *
  generalize (x5 == y5) = b5 at *
  generalize (x6 == y6) = b6 at *
  generalize (x7 == y7) = b7 at *
  cases b0
  · simp [Op.eqFields, q0, i0]
  cases b1
  · simp [Op.eqFields, q0, i0, q1, i1]
  cases b2
  · simp [Op.eqFields, q0, i0, q1, i1, q2, i2]
  cases b3
  · simp [Op.eqFields, q0, i0, q1, i1, q2, i2, q3, i3]
  cases b4
  · simp [Op.eqFields, q0, i0, q1, i1, q2, i2, q3, i3, q4, i4]
  cases b5
  · simp [Op.eqFields, q0, i0, q1, i1, q2, i2, q3, i3, q4, i4, q5, i5]
  cases b6
  · simp [Op.eqFields, q0, i0, q1, i1, q2, i2, q3, i3, q4, i4, q5, i5, q6, i6]
  cases b7 <;> simp [Op.eqFields, q0, i0, q1, i1, q2, i2, q3, i3, q4, i4, q5, i5, q6, i6, q7, i7]
end Go.Proofs.YtebpnnakcodjdaaDoor

namespace Go.Proofs.YtebpnnakcodjdaaDoor
open Go Go.RowKit

/-- Are two functions equal? -/
def sameFn (f g : ByteArray × List I8) : Bool := decide (f = g)
theorem fnNo {f g : ByteArray × List I8} {k : Nat} (h1 : k < f.2.length) (h2 : k < g.2.length) (h : i8Eq f.2[k] g.2[k] = false) : false = sameFn f g := by
  unfold sameFn
  rw [decide_eq_false fun e => ?_]
  subst e
  rw [i8EqIff] at h
  simp at h
end Go.Proofs.YtebpnnakcodjdaaDoor
