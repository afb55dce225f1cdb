/-
  Instructions as values and the table of the operations in memory: what an argument of the type Inst is, what the listed variables give.
-/
import Derived.Test.YtncpnkincdjgfaaDoorInsM
import Derived.Test.YtncpnkincdjgfaaDoorOwnI
import Derived.Test.YtncpnkincdjgfaaDoorTie
import Derived.ProofKit
import Derived.LaidMore
import Derived.OpenShut
import Derived.Lib.LaidTab
import Derived.Lib.SmallJoins
import Derived.Below
import Derived.ChangeSame
import Derived.ChangeMaps5
namespace Go.Proofs.YtncpnkincdjgfaaDoor
open Go Go.ChangeShapes Go.WideShapes Go.ChangeAt Go.WideMaps Go.WideElems Go.RowKit

def I8.val (i : I8) : Value := .agg #[.int .i64 i.op, .int .i64 i.a, .int .i64 i.b, .int .i64 i.c, .int .i64 i.obj, .int .i64 i.n, .int .i64 i.fn, .int .i64 i.ord]
def In64 (x : Int) : Prop := -9223372036854775808 ≤ x ∧ x ≤ 9223372036854775807
structure I8.Wf (i : I8) : Prop where
  op : In64 i.op
  a : In64 i.a
  b : In64 i.b
  c : In64 i.c
  obj : In64 i.obj
  n : In64 i.n
  fn : In64 i.fn
  ord : In64 i.ord

section
variable {H : Type} {enc : TypeId × Value → H} {P : Program} {w : World} {base : Nat} {sp : Nat → Bool} {held : Bool} {fuel : Nat}
theorem intOfTrod {t : TypeId} {v : Value} {y : DataW H × List MemPlace} (ht : P.underlying t = some (.int .i64)) (h : DataW.trod enc P w base sp held fuel t [v] = some y) : ∃ n, v = .int .i64 n ∧ In64 n := by
  obtain ⟨n, e, _, hw⟩ := DataW.trod_int ht h
  refine ⟨n, by simpa using e, ?_⟩
  have hw' : (decide (IntKind.i64.min ≤ n) && decide (n ≤ IntKind.i64.max)) = true := hw
  rw [Bool.and_eq_true, decide_eq_true_iff, decide_eq_true_iff] at hw'
  exact hw'
theorem array8 {α : Type} {cs : Array α} (h : cs.size = 8) : ∃ c0 c1 c2 c3 c4 c5 c6 c7, cs = #[c0, c1, c2, c3, c4, c5, c6, c7] := by
  obtain ⟨l⟩ := cs
  match l, h with
  | [c0, c1, c2, c3, c4, c5, c6, c7], _ => exact ⟨c0, c1, c2, c3, c4, c5, c6, c7, rfl⟩
end

set_option maxRecDepth 100000 in
theorem instFs : ∃ fs, Tryd.prog.underlying 40 = some (.struct fs) ∧ Deep.oneCellFields Tryd.prog fs = true ∧ fs.size = 8 ∧ (fs.toList.all fun f => [36, 3, 37, 38].contains f.type) = true :=
  ⟨_, Tryd.underlying40, by kernel_rfl, by kernel_rfl, by kernel_rfl⟩
theorem underI {u : TypeId} (h : ([36, 3, 37, 38] : List TypeId).contains u = true) : Tryd.prog.underlying u = some (.int .i64) := by
  simp only [List.contains_cons, List.contains_nil, Bool.or_false, Bool.or_eq_true, beq_iff_eq] at h
  rcases h with rfl | rfl | rfl | rfl
  · exact Tryd.underlying36
  · exact Tryd.underlying3
  · exact Tryd.underlying37
  · exact Tryd.underlying38
theorem cellsInst : Tryd.prog.cellsOf 40 = 8 := by kernel_rfl

set_option maxRecDepth 100000 in
theorem openI8 {H : Type} {enc : TypeId × Value → H} {W : World} {base b0 : Nat} {v : Value} {d : DataW H} {p : List MemPlace} (hv : Value.okWide Tryd.prog W .any base 40 v) (h : DataW.Trod enc Tryd.prog W b0 (fun _ => true) true 40 v d p) :
    ∃ i : I8, v = i.val ∧ i.Wf := by
  obtain ⟨fs, hfs, h1, h2, h3⟩ := instFs
  obtain ⟨cs, rfl, hsz⟩ := okWide_struct hfs hv
  obtain ⟨c0, c1, c2, c3, c4, c5, c6, c7, rfl⟩ := array8 (hsz.trans cellsInst)
  obtain ⟨fuel, hf⟩ := h
  obtain ⟨xs, n, _, _, _, hxl, hx⟩ := DataW.trod_struct hfs hf
  have key : ∀ k, k < 8 → ∀ c, [c0, c1, c2, c3, c4, c5, c6, c7][k]? = some c → ∃ z, c = .int .i64 z ∧ In64 z := by
    intro k hk c hc
    have hk' : k < fs.size := by omega
    have hkf : fs[k]? = some fs[k] := Array.getElem?_eq_getElem hk'
    obtain ⟨o, ce⟩ := Deep.hone_of h1 k fs[k] hkf
    have hu : Tryd.prog.underlying fs[k].type = some (.int .i64) := underI (List.all_eq_true.1 h3 fs[k] (by simp))
    have := hx k fs[k] hkf
    rw [o, ce, List.getElem?_eq_getElem (by omega)] at this
    refine intOfTrod (enc := enc) (w := W) (base := b0) (sp := fun _ => true) (held := true) (fuel := n) hu (y := xs[k]) ?_
    rw [← this]
    congr 1
    simp only [Value.cells]
    rcases k with _ | _ | _ | _ | _ | _ | _ | _ | k
    all_goals first | omega | (simp at hc ⊢; exact hc.symm)
  obtain ⟨z0, rfl, g0⟩ := key 0 (by omega) _ rfl
  obtain ⟨z1, rfl, g1⟩ := key 1 (by omega) _ rfl
  obtain ⟨z2, rfl, g2⟩ := key 2 (by omega) _ rfl
  obtain ⟨z3, rfl, g3⟩ := key 3 (by omega) _ rfl
  obtain ⟨z4, rfl, g4⟩ := key 4 (by omega) _ rfl
  obtain ⟨z5, rfl, g5⟩ := key 5 (by omega) _ rfl
  obtain ⟨z6, rfl, g6⟩ := key 6 (by omega) _ rfl
  obtain ⟨z7, rfl, g7⟩ := key 7 (by omega) _ rfl
  exact ⟨⟨z0, z1, z2, z3, z4, z5, z6, z7⟩, rfl, ⟨g0, g1, g2, g3, g4, g5, g6, g7⟩⟩

/-- The table of the operations is laid: name and fields of operation k. -/
structure InsT (w : World) : Prop where
  nm : ∀ k, k < 23 → w.cell? ⟨0, k * 8, none⟩ = some (.string (mn k))
  us : ∀ k f, k < 23 → f < 7 → w.cell? ⟨0, k * 8 + 1 + f, none⟩ = some (.bool (us k f))
end Go.Proofs.YtncpnkincdjgfaaDoor
