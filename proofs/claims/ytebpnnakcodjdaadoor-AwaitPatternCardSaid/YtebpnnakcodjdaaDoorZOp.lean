/-
  Arguments that are slices of integers, opened: such a slice reads as a list.
-/
import Derived.Test.YtebpnnakcodjdaaDoorZOwn
import Derived.ProofKit
import Derived.OpenShut
import Derived.ChangeMaps5
import Derived.Test.YtebpnnakcodjdaaDoorZInsE
import Derived.Test.YtebpnnakcodjdaaDoorTie
import Derived.LaidMore
import Derived.Stop.LaidErr
import Derived.ChangeSame
namespace Go.Proofs.YtebpnnakcodjdaaDoor
open Go Go.ChangeShapes Go.WideShapes Go.ChangeAt Go.RowKit

theorem ownKnob0 : ownKnob Tryd.prog.godebug = none := by kernel_rfl
theorem laidOut0 : laidOutB Tryd.prog = true := by kernel_rfl
theorem cellsInt : Tryd.prog.cellsOf 3 = 1 := by kernel_rfl

end Go.Proofs.YtebpnnakcodjdaaDoor

namespace Go.Proofs.YtebpnnakcodjdaaDoor
open Go Go.ChangeShapes Go.WideShapes Go.ChangeAt Go.WideMaps Go.WideElems Go.RowKit

theorem cellsStr : Tryd.prog.cellsOf 9 = 1 := by kernel_rfl
theorem cellsBool : Tryd.prog.cellsOf 4 = 1 := by kernel_rfl
theorem cells7b : Tryd.prog.cellsOf 113 = 7 := by kernel_rfl
theorem cellsRow : Tryd.prog.cellsOf 115 = 8 := by kernel_rfl
theorem cellsRows : Tryd.prog.cellsOf 116 = 184 := by kernel_rfl
theorem byteArrayEq {a b : ByteArray} (h : a.data.toList = b.data.toList) : a = b := by
  cases a with | mk x => cases b with | mk y => simp only [ByteArray.mk.injEq]; exact Array.toList_inj.1 h

/-- An array of strings that reads as the list holds the list's strings, cell for cell. -/
theorem cellsOfStrs {H : Type} {enc : TypeId × Value → H} {P : Program} {w : World} {base : Nat} {sp : Nat → Bool} {held : Bool} {fuel : Nat} {t e : TypeId} {n : Nat} {cs : List Value} {ss : List ByteArray} {p : List MemPlace}
    (ht : P.underlying t = some (.array n e)) (he : P.underlying e = some .string) (hce : P.cellsOf e = 1) (hct : P.cellsOf t = n)
    (h : DataW.trod enc P w base sp held fuel t cs = some (.agg (ss.map fun s => .lit (.string s.data.toList)), p)) : cs = ss.map Value.string := by
  obtain ⟨xs, m, _, hx, hl, hn, hel⟩ := DataW.trod_array ht h
  rw [hct] at hl
  have hxs : ss.map (fun s => (DataW.lit (.string s.data.toList) : DataW H)) = xs.map (·.1) := by
    have := congrArg Prod.fst hx
    simpa using this
  have hzl : ss.length = n := by
    have := congrArg List.length hxs
    simp at this
    omega
  apply List.ext_getElem?
  intro i
  by_cases hi : i < n
  · have hE := hel i hi
    rw [hce, Nat.mul_one] at hE
    have hxi : i < xs.length := by omega
    rw [List.getElem?_eq_getElem hxi] at hE
    obtain ⟨s', hc, hd, _⟩ := DataW.trod_string he hE
    have h1 : cs[i]? = some (.string s') := by
      have := congrArg (·[0]?) hc
      simpa [List.getElem?_take, List.getElem?_drop] using this
    have h2 := congrArg (·[i]?) hxs
    have hsi : i < ss.length := by omega
    simp only [List.getElem?_map, List.getElem?_eq_getElem hxi, List.getElem?_eq_getElem hsi, Option.map_some, hd, Option.some.injEq, DataW.lit.injEq, Lit.string.injEq] at h2
    rw [h1, List.getElem?_map, List.getElem?_eq_getElem hsi, Option.map_some, byteArrayEq h2]
  · rw [List.getElem?_eq_none (by omega), List.getElem?_eq_none (by simp; omega)]

/-- An array of Booleans that reads as the list holds the list's Booleans, cell for cell. -/
theorem cellsOfBools {H : Type} {enc : TypeId × Value → H} {P : Program} {w : World} {base : Nat} {sp : Nat → Bool} {held : Bool} {fuel : Nat} {t e : TypeId} {n : Nat} {cs : List Value} {ss : List Bool} {p : List MemPlace}
    (ht : P.underlying t = some (.array n e)) (he : P.underlying e = some .bool) (hce : P.cellsOf e = 1) (hct : P.cellsOf t = n)
    (h : DataW.trod enc P w base sp held fuel t cs = some (.agg (ss.map fun s => .lit (.bool s)), p)) : cs = ss.map Value.bool := by
  obtain ⟨xs, m, _, hx, hl, hn, hel⟩ := DataW.trod_array ht h
  rw [hct] at hl
  have hxs : ss.map (fun s => (DataW.lit (.bool s) : DataW H)) = xs.map (·.1) := by
    have := congrArg Prod.fst hx
    simpa using this
  have hzl : ss.length = n := by
    have := congrArg List.length hxs
    simp at this
    omega
  apply List.ext_getElem?
  intro i
  by_cases hi : i < n
  · have hE := hel i hi
    rw [hce, Nat.mul_one] at hE
    have hxi : i < xs.length := by omega
    rw [List.getElem?_eq_getElem hxi] at hE
    obtain ⟨s', hc, hd⟩ := DataW.trod_bool he hE
    have h1 : cs[i]? = some (.bool s') := by
      have := congrArg (·[0]?) hc
      simpa [List.getElem?_take, List.getElem?_drop] using this
    have h2 := congrArg (·[i]?) hxs
    have hsi : i < ss.length := by omega
    simp only [List.getElem?_map, List.getElem?_eq_getElem hxi, List.getElem?_eq_getElem hsi, Option.map_some, hd, Option.some.injEq, DataW.lit.injEq, Lit.bool.injEq] at h2
    rw [h1, List.getElem?_map, List.getElem?_eq_getElem hsi, Option.map_some, h2]
  · rw [List.getElem?_eq_none (by omega), List.getElem?_eq_none (by simp; omega)]

theorem gNames : Tryd.prog.globalNamed "modelcheck/value.names" = some 1 := by kernel_rfl
theorem gNamesT : (Tryd.prog.globals[1]?).map (·.type) = some 122 := by kernel_rfl
theorem cellsNames : Tryd.prog.cellsOf 122 = 11 := by kernel_rfl

theorem nm_of_laid {r : List (String × DataW Unit)} {W : World} (h : laidMet Tryd.prog (("modelcheck/value.names", Rows.laid_modelcheck_value_names) :: r) W) : Nm W := by
  obtain ⟨ps, ⟨g', t', cs, fuel, p, q, hg', ht', hvar, hd, _, _⟩, _⟩ := h
  obtain rfl := Option.some.inj (gNames.symm.trans hg')
  obtain rfl := Option.some.inj (gNamesT.symm.trans ht')
  have hcs : cs.toList = nmTab.map Value.string := cellsOfStrs Tryd.underlying122 Tryd.underlying9 cellsStr cellsNames hd
  intro k hk
  rw [World.var?_cell gNames hvar k, ← Array.getElem?_toList, hcs, List.getElem?_map]
  unfold nm
  rw [List.getD_eq_getElem?_getD, List.getElem?_eq_getElem (show k < nmTab.length from hk)]
  rfl

/-- The rows of the table of operations. -/
def rowTab : List (ByteArray × List Bool) := mnTab.zip usTab
def rowD {H : Type} (a : ByteArray × List Bool) : DataW H := .agg [.lit (.string a.1.data.toList), .agg (a.2.map fun b => .lit (.bool b))]
def rowC (a : ByteArray × List Bool) : List Value := .string a.1 :: a.2.map Value.bool
theorem rowCells {H : Type} {enc : TypeId × Value → H} {w : World} {base : Nat} {sp : Nat → Bool} {held : Bool} {fuel : Nat} {cs : List Value} {a : ByteArray × List Bool} {p : List MemPlace}
    (h : DataW.trod enc Tryd.prog w base sp held fuel 115 cs = some (rowD a, p)) : cs = rowC a := by
  obtain ⟨y0, y1, n, hx, hl, h0, h1⟩ := trod_struct2 Tryd.underlying115 h
  rw [cellsRow] at hl
  simp only [cellsStr, cells7b, List.drop_zero] at h0 h1
  simp only [rowD, Prod.mk.injEq, DataW.agg.injEq, List.cons.injEq, and_true] at hx
  obtain ⟨⟨e0, e1⟩, _⟩ := hx
  obtain ⟨s', hc, hd, _⟩ := DataW.trod_string Tryd.underlying9 h0
  have hs : s' = a.1 := by
    rw [hd] at e0
    simp only [DataW.lit.injEq, Lit.string.injEq] at e0
    exact byteArrayEq e0.symm
  obtain ⟨d1, p1⟩ := y1
  simp only at e1
  subst e1
  have hb := cellsOfBools Tryd.underlying113 Tryd.underlying4 cellsBool cells7b h1
  rw [List.take_of_length_le (by rw [List.length_drop]; omega)] at hb
  unfold rowC
  rw [← hb, ← hs]
  have := List.take_append_drop 1 cs
  rw [hc] at this
  exact this.symm
theorem gRows : Tryd.prog.globalNamed "modelcheck/inst.rows" = some 0 := by kernel_rfl
theorem gRowsT : (Tryd.prog.globals[0]?).map (·.type) = some 116 := by kernel_rfl
theorem rowTabIs : (Rows.laid_modelcheck_inst_rows : DataW Unit) = .agg (rowTab.map rowD) := by rfl
theorem rowTabAt : ∀ k, k < 23 → ∃ l, rowTab[k]? = some (mn k, l) ∧ ∀ f, f < 7 → l[f]? = some (us k f) := by
  intro k hk
  have h : ∀ k, k < 23 → (rowTab[k]?.map fun a => (a.1.data.toList, a.2)) = some ((mn k).data.toList, (List.range 7).map (us k)) := by decide
  have := h k hk
  cases e : rowTab[k]? with
  | none => rw [e] at this; cases this
  | some a =>
    rw [e] at this
    simp only [Option.map_some, Option.some.injEq, Prod.mk.injEq] at this
    refine ⟨a.2, by rw [← byteArrayEq this.1], fun f hf => ?_⟩
    rw [this.2, List.getElem?_map, List.getElem?_range hf]
    rfl
theorem ins_of_laid {r : List (String × DataW Unit)} {W : World} (h : laidMet Tryd.prog (("modelcheck/inst.rows", Rows.laid_modelcheck_inst_rows) :: r) W) : InsT W := by
  obtain ⟨ps, ⟨g', t', cs, fuel, p, q, hg', ht', hvar, hd, _, _⟩, _⟩ := h
  obtain rfl := Option.some.inj (gRows.symm.trans hg')
  obtain rfl := Option.some.inj (gRowsT.symm.trans ht')
  rw [rowTabIs] at hd
  obtain ⟨xs, m, _, hx, hl, hn, hel⟩ := DataW.trod_array Tryd.underlying116 hd
  rw [cellsRows] at hl
  have hxs : rowTab.map (rowD (H := Unit)) = xs.map (·.1) := by
    have := congrArg Prod.fst hx
    simpa using this
  have key : ∀ k a, k < 23 → rowTab[k]? = some a → ∀ j, j < 8 → cs.toList[k * 8 + j]? = (rowC a)[j]? := by
    intro k a hk ha j hj
    have hE := hel k hk
    rw [cellsRow] at hE
    have hxk : xs[k]?.map (·.1) = some (rowD a) := by
      rw [← List.getElem?_map, ← hxs, List.getElem?_map, ha]; rfl
    cases e : xs[k]? with
    | none => rw [e] at hxk; cases hxk
    | some y =>
      rw [e] at hxk hE
      obtain ⟨d, pl⟩ := y
      simp only [Option.map_some, Option.some.injEq] at hxk
      subst hxk
      have hc := rowCells hE
      rw [← hc, List.getElem?_take_of_lt hj, List.getElem?_drop]
  refine ⟨fun k hk => ?_, fun k f hk hf => ?_⟩
  · obtain ⟨l, hl1, _⟩ := rowTabAt k hk
    rw [World.var?_cell gRows hvar, ← Array.getElem?_toList]
    exact key k _ hk hl1 0 (by omega)
  · obtain ⟨l, hl1, hl2⟩ := rowTabAt k hk
    rw [World.var?_cell gRows hvar, ← Array.getElem?_toList, Nat.add_assoc, key k _ hk hl1 (1 + f) (by omega)]
    unfold rowC
    rw [Nat.add_comm 1 f, List.getElem?_cons_succ, List.getElem?_map, hl2 f hf]
    rfl

abbrev laidA : List (String × DataW Unit) := [("modelcheck/value.names", Rows.laid_modelcheck_value_names), ("modelcheck/inst.rows", Rows.laid_modelcheck_inst_rows)]
theorem metA {W : World} (h : laidMetH Tryd.prog laidA W) : Laid7 W := by
  rw [MakeChecks.laidMetH_plain _ _ _ (by kernel_rfl)] at h
  have h' : laidMet Tryd.prog (("modelcheck/value.names", Rows.laid_modelcheck_value_names) :: ("modelcheck/inst.rows", Rows.laid_modelcheck_inst_rows) :: []) W := h
  exact ⟨ins_of_laid (laidMet.tail h'), nm_of_laid h'⟩
theorem doorA (os : Os) (args : Array Value) : laidMetH Tryd.prog laidA ((World.doorLaid Tryd.prog 400 os).forCall (fun _ _ => 0) ⟨#[], args, []⟩).memory := by
  rw [MakeChecks.laidMetH_plain _ _ _ (by kernel_rfl)]
  exact laidMet_of_run' 8 (by kernel_rfl) (by kernel_rfl)
end Go.Proofs.YtebpnnakcodjdaaDoor
