/-
  Arguments opened: a program by value, a configuration, a string.
-/
import Derived.Test.YtnckpjcfgeajbaaDoorPkA
import Derived.Test.YtnckpjcfgeajbaaDoorPgZ
import Derived.Test.YtnckpjcfgeajbaaDoorPgI
import Derived.Test.YtnckpjcfgeajbaaDoorPgC
import Derived.Test.YtnckpjcfgeajbaaDoorPgO
import Derived.BigQuiet
import Derived.Test.YtnckpjcfgeajbaaDoorInsU
import Derived.Test.YtnckpjcfgeajbaaDoorInsC
import Derived.IntWalk
import Derived.BigGuard
import Derived.BigGuardPart
import Derived.Test.YtnckpjcfgeajbaaDoorSl
import Derived.Test.YtnckpjcfgeajbaaDoorProg
import Derived.Test.YtnckpjcfgeajbaaDoorRows
import Derived.Deep.QuietTactic
import Derived.Outline
import Derived.LoopTactic
import Derived.Test.YtnckpjcfgeajbaaDoorSetMath
import Derived.KernelRfl
import Derived.OwnWalk
import Derived.Test.YtnckpjcfgeajbaaDoorPgX
import Derived.Test.YtnckpjcfgeajbaaDoorPgY
import Derived.Test.YtnckpjcfgeajbaaDoorChg
import Derived.Test.YtnckpjcfgeajbaaDoorPgW
import Derived.ProofKit
import Derived.OpenShut
import Derived.ChangeMaps5
import Derived.Deep.SlicePairs
import Derived.Lib.SmallJoins
namespace Go.Proofs.YtnckpjcfgeajbaaDoor
open Go Go.RowKit

theorem rdsOf {w : World} {A : Option Addr} {c : Nat} {l : List ByteArray} (h : RdE 1 ES w A c l) : Rds w A c (sv l) := by
  refine ⟨by rw [svLen]; exact h.le, h.max, fun hn => ?_⟩
  rw [svLen] at hn
  obtain ⟨b, off, hA, hb, _⟩ := h.one hn
  refine ⟨_, hA, hb, fun j u hu => ?_⟩
  have hj : j < l.length := by
    have := (List.getElem?_eq_some_iff.1 hu).1
    rwa [svLen] at this
  obtain ⟨b', off', hA', _, hc⟩ := h.one hj
  rw [hA] at hA'
  injection hA' with hA'
  injection hA' with e1 e2
  subst e1 e2
  have hu2 : u = .string l[j] := by
    have : (sv l)[j]? = some (.string l[j]) := by simp [sv, hj]
    rw [this] at hu
    exact (Option.some.inj hu).symm
  rw [hu2, Addr.add_lit]
  have hc : w.cell? ⟨b, off + j * 1, none⟩ = some (.string l[j]) := hc
  rwa [Nat.mul_one] at hc
end Go.Proofs.YtnckpjcfgeajbaaDoor

namespace Go.Proofs.YtnckpjcfgeajbaaDoor
open Go Go.RowKit

end Go.Proofs.YtnckpjcfgeajbaaDoor

namespace Go.Proofs.YtnckpjcfgeajbaaDoor
open Go Go.RowKit

end Go.Proofs.YtnckpjcfgeajbaaDoor

namespace Go.Proofs.YtnckpjcfgeajbaaDoor
open Go Go.RowKit

end Go.Proofs.YtnckpjcfgeajbaaDoor

namespace Go.Proofs.YtnckpjcfgeajbaaDoor
open Go Go.ChangeShapes Go.WideShapes Go.ChangeAt Go.RowKit Go.Deep Go.Joins

section
variable {H : Type} {enc : TypeId × Value → H} {W : World} {b0 : Nat}
/-- The i-th field's part of a struct's cells. -/
theorem fieldAt {fs : Array Field} {cs : List Value} {xs : List (DataW H × List MemPlace)} {n : Nat} (h1 : oneCellFields Tryd.prog fs = true) (hl : cs.length = fs.size) (hxl : xs.length = fs.size)
    (hx : ∀ (i : Nat) (f : Field), fs[i]? = some f → DataW.trod enc Tryd.prog W b0 (fun _ => true) true n f.type ((cs.drop f.offset).take (Tryd.prog.cellsOf f.type)) = xs[i]?) (i : Nat) (hi : i < fs.size) :
    ∃ y, DataW.trod enc Tryd.prog W b0 (fun _ => true) true n fs[i].type [cs[i]] = some y := by
  have hf : fs[i]? = some fs[i] := Array.getElem?_eq_getElem hi
  obtain ⟨o, ce⟩ := hone_of h1 i fs[i] hf
  have h := hx i fs[i] hf
  rw [o, ce, List.getElem?_eq_getElem (by omega)] at h
  have e : List.take 1 (List.drop i cs) = [cs[i]'(by omega)] := by
    rw [List.drop_eq_getElem_cons (by omega)]
    rfl
  rw [e] at h
  exact ⟨_, h⟩
theorem typeAt {fs : Array Field} {ts : Array TypeId} (h : fs.map (·.type) = ts) (i : Nat) (hi : i < fs.size) {t : TypeId} (ht : ts[i]? = some t) : fs[i].type = t := by
  rw [← h, Array.getElem?_map, Array.getElem?_eq_getElem hi] at ht
  exact Option.some.inj ht
/-- A struct's cells, field by field. -/
theorem fieldsOf {t : TypeId} {fs : Array Field} {ts : Array TypeId} {k n : Nat} {cs : List Value} {x : DataW H × List MemPlace} (hu : Tryd.prog.underlying t = some (.struct fs)) (h1 : oneCellFields Tryd.prog fs = true) (h2 : fs.map (·.type) = ts) (hk : ts.size = k) (hl : cs.length = k)
    (h : DataW.trod enc Tryd.prog W b0 (fun _ => true) true n t cs = some x) : ∃ m, ∀ (i : Nat) (hi : i < cs.length) (u : TypeId), ts[i]? = some u → ∃ y, DataW.trod enc Tryd.prog W b0 (fun _ => true) true m u [cs[i]] = some y := by
  obtain ⟨xs, m, _, _, _, hxl, hx⟩ := DataW.trod_struct hu h
  have hsz : fs.size = k := by rw [← hk, ← h2, Array.size_map]
  refine ⟨m, fun i hi u hu' => ?_⟩
  have := fieldAt h1 (by omega) hxl hx i (by omega)
  rwa [typeAt h2 i (by omega) hu'] at this
end
end Go.Proofs.YtnckpjcfgeajbaaDoor
