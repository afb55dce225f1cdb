/-
  A row of instructions as an argument of its own.
-/
import Derived.Test.YtkanamdfjegcbaaDoorLPkC
namespace Go.Proofs.YtkanamdfjegcbaaDoor
open Go Go.ChangeShapes Go.WideShapes Go.ChangeAt Go.RowKit Go.Deep Go.Joins

set_option maxRecDepth 100000 in
theorem openCode {H : Type} {enc : TypeId × Value → H} {W : World} {base b0 : Nat} {v : Value} {d : DataW H} {p : List MemPlace} (hv : Value.okWide Tryd.prog W .any base 22 v) (h : DataW.Trod enc Tryd.prog W b0 (fun _ => true) true 22 v d p) :
    ∃ (A : Option Addr) (n c : Nat) (l : List I8), v = .slice A n c ∧ l.length = n ∧ RdE 8 EI W A c l ∧ ∀ i ∈ l, i.Wf := by
  obtain ⟨a0, len, cap, rfl⟩ := okWide_slice Tryd.underlying22 hv
  obtain ⟨fuel, hf⟩ := h
  exact openE EI I8.Wf Tryd.underlying22 (k := 8) (by kernel_rfl) (by decide) (fun b o cs n x h1 h2 h3 => elI h1 h2 h3) hf
end Go.Proofs.YtkanamdfjegcbaaDoor
