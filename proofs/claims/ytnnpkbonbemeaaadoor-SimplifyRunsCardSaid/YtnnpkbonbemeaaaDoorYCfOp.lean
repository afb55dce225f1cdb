/-
  A function as an argument, opened.
-/
import Derived.Test.YtnnpkbonbemeaaaDoorYOp
import Derived.Test.YtnnpkbonbemeaaaDoorYCa
namespace Go.Proofs.YtnnpkbonbemeaaaDoor
open Go Go.ChangeShapes Go.WideShapes Go.ChangeAt Go.RowKit Go.Deep Go.Joins

set_option maxRecDepth 100000 in
theorem openFn {H : Type} {enc : TypeId × Value → H} {W : World} {b0 base : Nat} {v : Value} {d : DataW H} {p : List MemPlace} (hv : Value.okWide Tryd.prog W .any base 42 v) (h : DataW.Trod enc Tryd.prog W b0 (fun _ => true) true 42 v d p) :
    ∃ (nm : ByteArray) (A : Option Addr) (n c : Nat) (C : List I8), v = fnV nm A n c ∧ C.length = n ∧ RdE 8 EI W A c C ∧ ∀ i ∈ C, i.Wf := by
  obtain ⟨fs, g1, g2, g3, g4⟩ := funcFs
  obtain ⟨cs, rfl, hsz⟩ := okWide_struct g1 hv
  rw [g4] at hsz
  obtain ⟨fuel, hf⟩ := h
  have hf' : DataW.trod enc Tryd.prog W b0 (fun _ => true) true fuel 42 cs.toList = some (d, p) := hf
  have hl : cs.toList.length = 2 := by simpa using hsz
  obtain ⟨m, hx⟩ := fieldsOf g1 g2 g3 rfl hl hf'
  obtain ⟨l⟩ := cs
  match l, hl with
  | [v1, v2], _ =>
    obtain ⟨_, f1⟩ := hx 0 (by simp) _ rfl
    obtain ⟨_, f2⟩ := hx 1 (by simp) _ rfl
    obtain ⟨s, e1, _, hs⟩ := DataW.trod_string Tryd.underlying9 f1
    injection e1 with e1
    have e1 : v1 = .string s := e1
    obtain ⟨A2, n2, c2, l2, e2, q2, r2, w2⟩ := openE EI I8.Wf Tryd.underlying40 (k := 8) (by kernel_rfl) (by decide) (fun b o cs n x h1 h2 h3 => elI h1 h2 h3) f2
    have e2 : v2 = _ := e2
    subst e1 e2
    exact ⟨s, A2, n2, c2, l2, rfl, q2, r2, w2⟩
end Go.Proofs.YtnnpkbonbemeaaaDoor
