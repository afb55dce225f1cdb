/-
  Arguments opened: a relation by value reads as a number and a list of pairs.
-/
import Derived.Test.YtjioiaeiggjneaaDoorKPr
import Derived.ProofKit
import Derived.OpenShut
import Derived.ChangeMaps5
import Derived.Deep.SlicePairs
import Derived.Lib.SmallJoins
import Derived.Test.YtjioiaeiggjneaaDoorKLinO
import Derived.Test.YtjioiaeiggjneaaDoorTie
import Derived.LaidMore
import Derived.Lib.LaidTab
import Derived.Below
import Derived.ChangeSame
namespace Go.Proofs.YtjioiaeiggjneaaDoor
open Go Go.ChangeShapes Go.WideShapes Go.ChangeAt Go.RowKit Go.Deep Go.Joins

theorem ownKnob0 : ownKnob Tryd.prog.godebug = none := by kernel_rfl
theorem laidOut0 : laidOutB Tryd.prog = true := by kernel_rfl
theorem cellsInt : Tryd.prog.cellsOf 3 = 1 := by kernel_rfl
theorem cellsPair : Tryd.prog.cellsOf 35 = 2 := by kernel_rfl
theorem cellsRel : Tryd.prog.cellsOf 24 = 2 := by kernel_rfl
/-- The integer at an address. -/
def atI (W : World) (a : Addr) : Int := intOf ((W.cell? a).getD undef)
theorem atIs {W : World} {a : Addr} {x : Int} (h : W.cell? a = some (.int .i64 x)) : W.cell? a = some (.int .i64 (atI W a)) := by
  unfold atI
  rw [h]; rfl
set_option maxRecDepth 100000 in
theorem openPrs {H : Type} {enc : TypeId × Value → H} {W : World} {b0 : Nat} {fuel : Nat} {v : Value} {y : DataW H × List MemPlace} (h : DataW.trod enc Tryd.prog W b0 (fun _ => true) true fuel 22 [v] = some y) :
    ∃ (A : Option Addr) (n c : Nat) (l : Prs), v = .slice A n c ∧ l.length = n ∧ Rp W A c l := by
  rcases open_slice Tryd.underlying22 h with ⟨hcs, hx⟩ | ⟨a, len, cap, m, n, D, Pl, hcs, hb, hl, hmx, hmm, hx, hcell⟩
  · injection hcs with hcs
    exact ⟨none, 0, 0, [], hcs, rfl, Rp.nil⟩
  · injection hcs with hcs
    simp only [if_true] at hmm
    subst hmm
    have each : ∀ i, i < m → (∃ x, W.cell? (a.add (i * 2)) = some (.int .i64 x)) ∧ ∃ x, W.cell? (a.add (i * 2 + 1)) = some (.int .i64 x) := fun i hi => by
      obtain ⟨cs', h1, h2⟩ := hcell i hi
      rw [cellsPair] at h1
      obtain ⟨_, hlen, hc⟩ := World.cells?_some h1
      obtain ⟨xs, k, _, _, _, hxl, hf⟩ := DataW.trod_array Tryd.underlying35 h2
      match xs, hxl, cs', hlen with
      | [y0, y1], _, [v0, v1], _ =>
        have g0 := hf 0 (by omega)
        have g1 := hf 1 (by omega)
        simp [cellsInt] at g0 g1
        have e0 := hc 0 (by omega)
        have e1 := hc 1 (by omega)
        rw [addAdd] at e0 e1
        obtain ⟨x0, hx0, _⟩ := DataW.trod_int Tryd.underlying3 g0
        obtain ⟨x1, hx1, _⟩ := DataW.trod_int Tryd.underlying3 g1
        injection hx0 with hx0
        injection hx1 with hx1
        subst hx0; subst hx1
        exact ⟨⟨x0, by simpa using e0⟩, x1, by simpa using e1⟩
    refine ⟨some a, len, m, (List.range len).map fun i => (atI W (a.add (i * 2)), atI W (a.add (i * 2 + 1))), hcs, by simp, ⟨by simpa using hl, hmx, fun hn => ?_⟩⟩
    have hn' : 0 < len := by simpa using hn
    obtain ⟨⟨x0, h0⟩, _⟩ := each 0 (by omega)
    obtain ⟨b, off, spot⟩ := a
    have hspot : spot = none := by simpa [Addr.add] using World.cell?_spot h0
    subst hspot
    refine ⟨b, off, rfl, ?_, fun j hj => ?_⟩
    · have := World.block_lt_of_cell? W _ h0
      rwa [addBlock] at this
    · have hj' : j < len := by simpa using hj
      obtain ⟨⟨x1, h1⟩, x2, h2⟩ := each j (by omega)
      have h1 := atIs h1
      have h2 := atIs h2
      rw [Addr.add_lit] at h1 h2
      simp only [List.getElem_map, List.getElem_range]
      rw [Addr.add_lit, Addr.add_lit, ← Nat.add_assoc]
      rw [← Nat.add_assoc] at h2
      exact ⟨h1, h2⟩
set_option maxRecDepth 100000 in
theorem openRel {H : Type} {enc : TypeId × Value → H} {W : World} {base b0 : Nat} {v : Value} {d : DataW H} {p : List MemPlace} (hv : Value.okWide Tryd.prog W .any base 24 v) (h : DataW.Trod enc Tryd.prog W b0 (fun _ => true) true 24 v d p) :
    ∃ (N : Int) (A : Option Addr) (n c : Nat) (l : Prs), v = relV N A n c ∧ l.length = n ∧ Rp W A c l := by
  obtain ⟨v0, v1, y0, y1, n, rfl, _, _, h0, h1⟩ := open_agg2 Tryd.underlying24 (by kernel_rfl) cellsRel hv h
  obtain ⟨N, hN, _⟩ := DataW.trod_int Tryd.underlying3 h0
  injection hN with hN
  subst hN
  obtain ⟨A, k, c, l, rfl, h2, h3⟩ := openPrs h1
  exact ⟨N, A, k, c, l, rfl, h2, h3⟩
end Go.Proofs.YtjioiaeiggjneaaDoor

namespace Go.Proofs.YtjioiaeiggjneaaDoor
open Go Go.ChangeShapes Go.WideShapes Go.ChangeAt Go.WideMaps Go.WideElems Go.RowKit Go.Joins

abbrev laidT : List (String × DataW Unit) := [("math/bits.deBruijn64tab", Rows.laid_math_bits_deBruijn64tab)]
theorem gDb : Tryd.prog.globalNamed "math/bits.deBruijn64tab" = some 0 := by kernel_rfl
theorem gDbT : (Tryd.prog.globals[0]?).map (·.type) = some 83 := by kernel_rfl
theorem cellsDb : Tryd.prog.cellsOf 83 = 64 := by kernel_rfl
theorem cellsU8 : Tryd.prog.cellsOf 5 = 1 := by kernel_rfl
theorem dbData : (Rows.laid_math_bits_deBruijn64tab : DataW Unit) = Lib.tabData .u8 (Lib.deBruijn64tab.map Int.ofNat) := by rfl
theorem metT {W : World} (h : laidMetH Tryd.prog laidT W) : Tbl W := by
  rw [MakeChecks.laidMetH_plain _ _ _ (by kernel_rfl)] at h
  have h' : laidMet Tryd.prog (("math/bits.deBruijn64tab", Rows.laid_math_bits_deBruijn64tab) :: []) W := h
  rw [dbData] at h'
  have ht := Lib.tabIs_of_head gDb gDbT Tryd.underlying83 Tryd.underlying5 cellsU8 cellsDb h'
  intro j hj
  rw [ht.cell gDb j (by simpa using hj)]
  congr 2
  simp [List.getD, hj]
theorem doorT (os : Os) (args : Array Value) : laidMetH Tryd.prog laidT ((World.doorLaid Tryd.prog 400 os).forCall (fun _ _ => 0) ⟨#[], args, []⟩).memory := by
  rw [MakeChecks.laidMetH_plain _ _ _ (by kernel_rfl)]
  exact laidMet_of_run' 8 (by kernel_rfl) (by kernel_rfl)
set_option maxRecDepth 100000 in
theorem openSl {H : Type} {enc : TypeId × Value → H} {W : World} {base b0 : Nat} {v : Value} {d : DataW H} {p : List MemPlace} (hv : Value.okWide Tryd.prog W .any base 25 v) (h : DataW.Trod enc Tryd.prog W b0 (fun _ => true) true 25 v d p) :
    ∃ (A : Option Addr) (n c : Nat) (l : List Int), v = .slice A n c ∧ l.length = n ∧ Rd W A c l := by
  obtain ⟨a0, len, cap, rfl⟩ := okWide_slice Tryd.underlying25 hv
  obtain ⟨fuel, hf⟩ := h
  rcases open_ints Tryd.underlying25 Tryd.underlying3 cellsInt hf with ⟨hcs, hx⟩ | ⟨a, len', cap', zs, hcs, _, hl, hmx, hz, hx, hcell, hwz⟩
  · simp [Value.cells] at hcs
    obtain ⟨rfl, rfl, rfl⟩ := hcs
    exact ⟨none, 0, 0, [], rfl, rfl, Rd.nil⟩
  · simp [Value.cells] at hcs
    obtain ⟨rfl, rfl, rfl⟩ := hcs
    simp only [if_true] at hz
    refine ⟨some a, len, cap, zs.take len, rfl, by rw [List.length_take]; omega, ⟨by simp; omega, hmx, fun hn => ⟨a, rfl, ?_, fun j u hu => ?_⟩⟩⟩
    · have hn' : 0 < zs.length := by simp at hn; omega
      have := World.block_lt_of_cell? W _ (hcell 0 hn')
      rwa [addBlock] at this
    · have hj : j < len ∧ j < zs.length := by
        have := (List.getElem?_eq_some_iff.1 hu).1
        simp at this
        omega
      rw [hcell j hj.2]
      have hu' : u = .int .i64 zs[j] := by
        rw [iv, List.getElem?_map, List.getElem?_take_of_lt hj.1, List.getElem?_eq_getElem hj.2] at hu
        exact (Option.some.inj hu).symm
      rw [hu']
      simp [List.getD, hj.2]
end Go.Proofs.YtjioiaeiggjneaaDoor
