/-
  A relation as an argument: how many pairs the form's reach lets it have.
-/
import Derived.Test.YthigdniepifohaaDoorKLkLaid
import Derived.SizedLaws
namespace Go.Proofs.YthigdniepifohaaDoor
open Go Go.ChangeShapes Go.WideShapes Go.ChangeAt Go.RowKit Go.Deep Go.Joins

theorem bytesPair : Tryd.prog.bytesOf 43 = 16 := by kernel_rfl
set_option maxRecDepth 100000 in
theorem prsWeight {H : Type} {enc : TypeId × Value → H} {W : World} {b0 : Nat} {fuel : Nat} {A : Option Addr} {n c : Nat} {y : DataW H × List MemPlace} (h : DataW.trod enc Tryd.prog W b0 (fun _ => true) true fuel 22 [.slice A n c] = some y) :
    n = 0 ∨ ∃ k, n ≤ k ∧ k * 16 ∈ y.1.weights Tryd.prog 22 := by
  rcases open_slice Tryd.underlying22 h with ⟨hcs, hx⟩ | ⟨a, len, cap, m, n', D, Pl, hcs, hb, hl, hmx, hmm, hx, hcell⟩
  · injection hcs with hcs
    injection hcs with e1 e2 e3
    exact .inl e2
  · injection hcs with hcs
    injection hcs with e1 e2 e3
    refine .inr ⟨len + (m - len), by omega, ?_⟩
    rw [hx]
    simp only [DataW.weights, Tryd.underlying22, bytesPair, List.length_map, List.length_range]
    exact List.mem_cons_self
set_option maxRecDepth 100000 in
theorem openRelW {H : Type} {enc : TypeId × Value → H} {W : World} {base b0 : Nat} {v : Value} {d : DataW H} {p : List MemPlace} (hv : Value.okWide Tryd.prog W .any base 24 v) (h : DataW.Trod enc Tryd.prog W b0 (fun _ => true) true 24 v d p) :
    ∃ (N : Int) (A : Option Addr) (n c : Nat) (l : Prs), v = relV N A n c ∧ l.length = n ∧ Rp W A c l ∧ (n = 0 ∨ ∃ k, n ≤ k ∧ k * 16 ∈ d.weights Tryd.prog 24) := by
  obtain ⟨v0, v1, y0, y1, n, rfl, hd, _, h0, h1⟩ := open_agg2 Tryd.underlying24 (by kernel_rfl) cellsRel hv h
  obtain ⟨N, hN, _⟩ := DataW.trod_int Tryd.underlying3 h0
  injection hN with hN
  subst hN
  obtain ⟨A, k, c, l, rfl, h2, h3⟩ := openPrs h1
  refine ⟨N, A, k, c, l, rfl, h2, h3, (prsWeight h1).imp id fun ⟨q, hq, hm⟩ => ⟨q, hq, ?_⟩⟩
  rw [hd]
  simp only [DataW.weights, Tryd.underlying24]
  exact DataW.weights_mem_each (j := 1) (t := 22) (d := y1.1) rfl rfl _ hm
end Go.Proofs.YthigdniepifohaaDoor
