/-
  Eight registers as an argument, opened.
-/
import Derived.Test.YtebpnnakcodjdaaDoorZApM
import Derived.Test.YtebpnnakcodjdaaDoorZOp
namespace Go.Proofs.YtebpnnakcodjdaaDoor
open Go Go.ChangeShapes Go.WideShapes Go.ChangeAt Go.RowKit Go.Deep Go.Joins

set_option maxRecDepth 100000 in
theorem openRg7 {H : Type} {enc : TypeId × Value → H} {W : World} {b0 base : Nat} {v : Value} {d : DataW H} {p : List MemPlace} (hv : Value.okWide Tryd.prog W .any base 28 v) (h : DataW.Trod enc Tryd.prog W b0 (fun _ => true) true 28 v d p) :
    ∃ R : Int → Int, v = .agg (rgA R) := by
  obtain ⟨cs, rfl, hsz⟩ : ∃ cs, v = .agg cs ∧ cs.size = 8 := by
    have h9 := hv
    simp only [Value.okWide, Tryd.underlying28] at h9
    obtain ⟨cs, h1, h2, _⟩ := h9
    exact ⟨cs, h1, by rw [h2]; kernel_rfl⟩
  obtain ⟨fuel, hf⟩ := h
  have hf' : DataW.trod enc Tryd.prog W b0 (fun _ => true) true fuel 28 cs.toList = some (d, p) := hf
  obtain ⟨xs, k, _, _, _, hxl, hx⟩ := DataW.trod_array Tryd.underlying28 hf'
  have hl : cs.toList.length = 8 := by simpa using hsz
  obtain ⟨l⟩ := cs
  match xs, hxl, l, hl with
  | [y0, y1, y2, y3, y4, y5, y6, y7], _, [v0, v1, v2, v3, v4, v5, v6, v7], _ =>
    have g0 := hx 0 (by omega)
    have g1 := hx 1 (by omega)
    have g2 := hx 2 (by omega)
    have g3 := hx 3 (by omega)
    have g4 := hx 4 (by omega)
    have g5 := hx 5 (by omega)
    have g6 := hx 6 (by omega)
    have g7 := hx 7 (by omega)
    simp [cellsInt] at g0 g1 g2 g3 g4 g5 g6 g7
    obtain ⟨x0, e0, _⟩ := DataW.trod_int Tryd.underlying3 g0
    obtain ⟨x1, e1, _⟩ := DataW.trod_int Tryd.underlying3 g1
    obtain ⟨x2, e2, _⟩ := DataW.trod_int Tryd.underlying3 g2
    obtain ⟨x3, e3, _⟩ := DataW.trod_int Tryd.underlying3 g3
    obtain ⟨x4, e4, _⟩ := DataW.trod_int Tryd.underlying3 g4
    obtain ⟨x5, e5, _⟩ := DataW.trod_int Tryd.underlying3 g5
    obtain ⟨x6, e6, _⟩ := DataW.trod_int Tryd.underlying3 g6
    obtain ⟨x7, e7, _⟩ := DataW.trod_int Tryd.underlying3 g7
    injection e0 with e0
    injection e1 with e1
    injection e2 with e2
    injection e3 with e3
    injection e4 with e4
    injection e5 with e5
    injection e6 with e6
    injection e7 with e7
    subst e0 e1 e2 e3 e4 e5 e6 e7
    exact ⟨fun r => if r = 0 then x0 else if r = 1 then x1 else if r = 2 then x2 else if r = 3 then x3 else if r = 4 then x4 else if r = 5 then x5 else if r = 6 then x6 else x7, by simp [rgA]⟩
end Go.Proofs.YtebpnnakcodjdaaDoor
