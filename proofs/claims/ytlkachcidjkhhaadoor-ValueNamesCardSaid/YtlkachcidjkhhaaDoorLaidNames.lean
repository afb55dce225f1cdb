/-
  What the listed package-level variables give the walks of the names: the table of names is laid.
-/
import Derived.Test.YtlkachcidjkhhaaDoorNames
import Derived.Test.YtlkachcidjkhhaaDoorLaid
namespace Go.Proofs.YtlkachcidjkhhaaDoor
open Go.ChangeShapes Go.WideShapes Go.ChangeAt Go.WideMaps Go.WideElems Go.RowKit

theorem byteArrayEq {a b : ByteArray} (h : a.data.toList = b.data.toList) : a = b := by
  cases a with | mk x => cases b with | mk y => simp only [ByteArray.mk.injEq]; exact Array.toList_inj.1 h

/-- An array of strings that reads as the list holds the list's strings, cell for cell. -/
theorem cellsOfStrs {H : Type} {enc : TypeId × Value → H} {P : Program} {w : World} {base : Nat} {sp : Nat → Bool} {held : Bool} {fuel : Nat} {t e : TypeId} {n : Nat} {cs : List Value} {ss : List ByteArray} {p : List MemPlace}
    (ht : P.underlying t = some (.array n e)) (he : P.underlying e = some .string) (hce : P.cellsOf e = 1) (hct : P.cellsOf t = n)
    (h : DataW.trod enc P w base sp held fuel t cs = some (.agg (ss.map fun s => .lit (.string s.data.toList)), p)) : cs = ss.map Value.string := by
  obtain ⟨xs, m, _, hx, hl, hn, hel⟩ := DataW.trod_array ht h
  rw [hct] at hl
  have hxs : ss.map (fun s => (DataW.lit (.string s.data.toList) : DataW H)) = xs.map (·.1) := by
    have := congrArg Prod.fst hx
    simpa using this
  have hzl : ss.length = n := by
    have := congrArg List.length hxs
    simp at this
    omega
  apply List.ext_getElem?
  intro i
  by_cases hi : i < n
  · have hE := hel i hi
    rw [hce, Nat.mul_one] at hE
    have hxi : i < xs.length := by omega
    rw [List.getElem?_eq_getElem hxi] at hE
    obtain ⟨s', hc, hd, _⟩ := DataW.trod_string he hE
    have h1 : cs[i]? = some (.string s') := by
      have := congrArg (·[0]?) hc
      simpa [List.getElem?_take, List.getElem?_drop] using this
    have h2 := congrArg (·[i]?) hxs
    have hsi : i < ss.length := by omega
    simp only [List.getElem?_map, List.getElem?_eq_getElem hxi, List.getElem?_eq_getElem hsi, Option.map_some, hd, Option.some.injEq, DataW.lit.injEq, Lit.string.injEq] at h2
    rw [h1, List.getElem?_map, List.getElem?_eq_getElem hsi, Option.map_some, byteArrayEq h2]
  · rw [List.getElem?_eq_none (by omega), List.getElem?_eq_none (by simp; omega)]

theorem gNames : Tryd.prog.globalNamed "modelcheck/value.names" = some 0 := by kernel_rfl
theorem gNamesT : (Tryd.prog.globals[0]?).map (·.type) = some 47 := by kernel_rfl
theorem cellsNames : Tryd.prog.cellsOf 47 = 11 := by kernel_rfl

theorem nm_of_laid {r : List (String × DataW Unit)} {W : World} (h : laidMet Tryd.prog (("modelcheck/value.names", Rows.laid_modelcheck_value_names) :: r) W) : Nm W := by
  obtain ⟨ps, ⟨g', t', cs, fuel, p, q, hg', ht', hvar, hd, _, _⟩, _⟩ := h
  obtain rfl := Option.some.inj (gNames.symm.trans hg')
  obtain rfl := Option.some.inj (gNamesT.symm.trans ht')
  have hcs : cs.toList = nmTab.map Value.string := cellsOfStrs Tryd.underlying47 Tryd.underlying9 cellsStr cellsNames hd
  intro k hk
  rw [World.var?_cell gNames hvar k, ← Array.getElem?_toList, hcs, List.getElem?_map]
  unfold nm
  rw [List.getD_eq_getElem?_getD, List.getElem?_eq_getElem (show k < nmTab.length from hk)]
  rfl

/-- The list of the law ValueNames. -/
abbrev laid6 : List (String × DataW Unit) := Rows.valueNamesRow.laid
theorem met6 {W : World} (h : laidMetH Tryd.prog laid6 W) : laidMet Tryd.prog laid6 W := by
  rwa [MakeChecks.laidMetH_plain _ _ _ (by kernel_rfl)] at h
theorem ev6 {W : World} (h : laidMetH Tryd.prog laid6 W) : Ev W := ev_of_laid (met6 h).tail.tail.tail
theorem nm6 {W : World} (h : laidMetH Tryd.prog laid6 W) : Nm W := nm_of_laid (met6 h).tail.tail.tail.tail.tail
theorem door6 (os : Os) (args : Array Value) : laidMetH Tryd.prog laid6 ((World.doorLaid Tryd.prog 400 os).forCall (fun _ _ => 0) ⟨#[], args, []⟩).memory := by
  rw [MakeChecks.laidMetH_plain _ _ _ (by kernel_rfl)]
  exact laidMet_of_run' 8 (by kernel_rfl) (by kernel_rfl)
end Go.Proofs.YtlkachcidjkhhaaDoor
