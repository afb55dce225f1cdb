/-
  The specification's code: the first error of a function's instructions.
-/
import Derived.Test.YtdmajlgdjhmpdaaDoorCPgJ
import Derived.Test.YtdmajlgdjhmpdaaDoorCPgW
import Derived.Test.YtdmajlgdjhmpdaaDoorCPgO
import Derived.BigQuiet
import Derived.Test.YtdmajlgdjhmpdaaDoorCInsD
namespace Go.Proofs.YtdmajlgdjhmpdaaDoor
open Go Go.RowKit

end Go.Proofs.YtdmajlgdjhmpdaaDoor

namespace Go.Proofs.YtdmajlgdjhmpdaaDoor
open Go Go.RowKit

def exB (n1 n2 n3 n4 : Nat) (i : I8) : Bool := if i.op = 18 ∧ belB i.n n2 = false then false else match objL n1 n2 n3 n4 i.op with | some c => belB i.obj c | none => true
end Go.Proofs.YtdmajlgdjhmpdaaDoor

namespace Go.Proofs.YtdmajlgdjhmpdaaDoor
open Go Go.RowKit

theorem cdHit {p : Prg} {len : Nat} {l : List I8} {k : Nat} (hk : k < l.length) (h : p.insE len l[k] ≠ 0) : p.cdF len (l.drop k) k = (p.insE len l[k], (k : Int)) := by
  rw [List.drop_eq_getElem_cons hk, Prg.cdF, if_pos h]
theorem cdMiss {p : Prg} {len : Nat} {l : List I8} {k : Nat} (hk : k < l.length) (h : p.insE len l[k] = 0) : p.cdF len (l.drop k) k = p.cdF len (l.drop (k + 1)) (k + 1) := by
  rw [List.drop_eq_getElem_cons hk, Prg.cdF, if_neg (by rw [h]; simp)]
theorem cdEnd {p : Prg} {len : Nat} {l : List I8} {k : Nat} (hk : l.length ≤ k) : p.cdF len (l.drop k) k = (0, -1) := by
  rw [List.drop_eq_nil_of_le hk, Prg.cdF]
theorem exNo {w : World} {a : PgA} {p : Prg} (hP : PgW w a p) {len : Nat} {i : I8} (h : i.chk = 0) (he : exB a.n1 a.n2 a.n3 a.n4 i = false) : p.insE len i = 11 := by
  unfold Prg.insE
  unfold exB at he
  rw [if_neg (by rw [h]; simp), objEq hP, hP.l2]
  generalize objL a.n1 a.n2 a.n3 a.n4 i.op = o at he ⊢
  by_cases h1 : i.op = 18 ∧ belB i.n a.n2 = false
  · cases o <;> simp [h1]
  · rw [if_neg h1] at he
    cases o with
    | none => simp at he
    | some c => simp only at he; simp [he]
theorem exYes {w : World} {a : PgA} {p : Prg} (hP : PgW w a p) {len : Nat} {i : I8} (h : i.chk = 0) (he : exB a.n1 a.n2 a.n3 a.n4 i = true) : p.insE len i = if (i.op = 4 ∨ i.op = 5) ∧ belB i.n (len + 1) = false then 12 else 0 := by
  unfold Prg.insE
  unfold exB at he
  rw [if_neg (by rw [h]; simp), objEq hP, hP.l2]
  generalize objL a.n1 a.n2 a.n3 a.n4 i.op = o at he ⊢
  by_cases h1 : i.op = 18 ∧ belB i.n a.n2 = false
  · rw [if_pos h1] at he
    cases he
  · rw [if_neg h1] at he
    cases o with
    | none => simp only [if_neg h1]; rfl
    | some c => simp only at he; simp only [he, if_neg h1]; rfl
theorem ret2I {x y : Int × Int} (h : x = y) : Ending.returned (.tuple #[.int .i64 x.1, .int .i64 x.2]) = .returned (.tuple #[.int .i64 y.1, .int .i64 y.2]) := by rw [h]
end Go.Proofs.YtdmajlgdjhmpdaaDoor
