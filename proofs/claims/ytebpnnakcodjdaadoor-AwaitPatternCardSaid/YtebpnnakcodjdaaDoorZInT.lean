/-
  Instructions as values and the table of the operations in memory: what an argument of the type Inst is, what the listed variables give.
-/
import Derived.Test.YtebpnnakcodjdaaDoorZPure
import Derived.Test.YtebpnnakcodjdaaDoorZOwn
import Derived.Test.YtebpnnakcodjdaaDoorTie
import Derived.ProofKit
import Derived.LaidMore
import Derived.OpenShut
import Derived.Lib.LaidTab
import Derived.Lib.SmallJoins
import Derived.Below
import Derived.ChangeSame
import Derived.ChangeMaps5
import Derived.Test.YtebpnnakcodjdaaDoorRows
import Derived.WalkKit
import Derived.WalkSpells
import Derived.WalkLawsBesides
import Derived.Lib.Hide
import Derived.Lib.Strings
namespace Go.Proofs.YtebpnnakcodjdaaDoor
open Go Go.ChangeShapes Go.WideShapes Go.ChangeAt Go.WideMaps Go.WideElems Go.RowKit

def I8.val (i : I8) : Value := .agg #[.int .i64 i.op, .int .i64 i.a, .int .i64 i.b, .int .i64 i.c, .int .i64 i.obj, .int .i64 i.n, .int .i64 i.fn, .int .i64 i.ord]
def In64 (x : Int) : Prop := -9223372036854775808 ≤ x ∧ x ≤ 9223372036854775807
structure I8.Wf (i : I8) : Prop where
  op : In64 i.op
  a : In64 i.a
  b : In64 i.b
  c : In64 i.c
  obj : In64 i.obj
  n : In64 i.n
  fn : In64 i.fn
  ord : In64 i.ord

section
variable {H : Type} {enc : TypeId × Value → H} {P : Program} {w : World} {base : Nat} {sp : Nat → Bool} {held : Bool} {fuel : Nat}
theorem intOfTrod {t : TypeId} {v : Value} {y : DataW H × List MemPlace} (ht : P.underlying t = some (.int .i64)) (h : DataW.trod enc P w base sp held fuel t [v] = some y) : ∃ n, v = .int .i64 n ∧ In64 n := by
  obtain ⟨n, e, _, hw⟩ := DataW.trod_int ht h
  refine ⟨n, by simpa using e, ?_⟩
  have hw' : (decide (IntKind.i64.min ≤ n) && decide (n ≤ IntKind.i64.max)) = true := hw
  rw [Bool.and_eq_true, decide_eq_true_iff, decide_eq_true_iff] at hw'
  exact hw'
end

/-- The table of the operations is laid: name and fields of operation k. -/
structure InsT (w : World) : Prop where
  nm : ∀ k, k < 23 → w.cell? ⟨0, k * 8, none⟩ = some (.string (mn k))
  us : ∀ k f, k < 23 → f < 7 → w.cell? ⟨0, k * 8 + 1 + f, none⟩ = some (.bool (us k f))
end Go.Proofs.YtebpnnakcodjdaaDoor

namespace Go.Proofs.YtebpnnakcodjdaaDoor
open Go.RowKit

theorem w64w32 (a : Int) : wrap64 (wrap32 a) = wrap32 a := by
  simp only [wrap64, wrap32]; omega

/-- The names, by number; number 0 has the empty one. -/
def nmTab : List ByteArray := [⟨#[]⟩, ⟨#[97, 100, 100]⟩, ⟨#[115, 117, 98]⟩, ⟨#[109, 117, 108]⟩, ⟨#[97, 110, 100]⟩, ⟨#[111, 114]⟩, ⟨#[120, 111, 114]⟩, ⟨#[101, 113]⟩, ⟨#[110, 101]⟩, ⟨#[108, 116]⟩, ⟨#[108, 101]⟩]
def nm (k : Nat) : ByteArray := nmTab.getD k ⟨#[]⟩
/-- The table of names is laid. -/
def Nm (w : World) : Prop := ∀ k, k < 11 → w.cell? ⟨1, k, none⟩ = some (.string (nm k))
def nameOf (f : Int) : ByteArray := if 1 ≤ f ∧ f ≤ 10 then nm f.toNat else ⟨#[]⟩

theorem nmFull : ∀ j, j < 11 → 1 ≤ j → (nm j).data.toList ≠ [] := by decide
theorem vNameOut (f : Int) (h : f < 1 ∨ 10 < f) (w : World) :
    Calls Tryd.prog 78 #[.int .i64 f] w fun e w' => e = .returned (.string (nameOf f)) ∧ w = w' := by
  have HE : Hid (nameOf f = ⟨#[]⟩) := Lib.hid (by unfold nameOf; rw [if_neg (by omega)])
  rcases h with h | h
  · go_enter Tryd.func78, Tryd.ntmps78
    go_wp2
    go_ret
    exact ⟨by rw [HE.out]; rfl, rfl⟩
  · have h' : 1 ≤ f := by omega
    go_enter Tryd.func78, Tryd.ntmps78
    go_wp2
    go_ret
    exact ⟨by rw [HE.out]; rfl, rfl⟩

theorem vNameIn (k : Nat) (h1 : 1 ≤ k) (h2 : k ≤ 10) (w : World) (hN : Nm w) :
    Calls Tryd.prog 78 #[.int .i64 (k : Int)] w fun e w' => e = .returned (.string (nm k)) ∧ w = w' := by
  have hc := hN k (by omega)
  go_enter Tryd.func78, Tryd.ntmps78
  go_wp2
  go_ret
  exact ⟨rfl, rfl⟩

theorem nameIn (k : Nat) (h1 : 1 ≤ k) (h2 : k ≤ 10) (f : Int) (h : f = k) : nameOf f = nm k := by
  subst h
  unfold nameOf
  rw [if_pos (by omega)]
  rfl
theorem nameOut (f : Int) (h1 : (f == 1) = false) (h2 : (f == 2) = false) (h3 : (f == 3) = false) (h4 : (f == 4) = false) (h5 : (f == 5) = false) (h6 : (f == 6) = false) (h7 : (f == 7) = false) (h8 : (f == 8) = false) (h9 : (f == 9) = false) (h10 : (f == 10) = false) :
    nameOf f = ⟨#[]⟩ := by
  simp only [beq_eq_false_iff_ne] at h1 h2 h3 h4 h5 h6 h7 h8 h9 h10
  unfold nameOf
  rw [if_neg (by omega)]
theorem retS {a b : ByteArray} (h : a = b) : Ending.returned (.string a) = .returned (.string b) := by rw [h]

set_option maxHeartbeats 1000000 in
theorem rName (f : Int) (w : World) :
    Calls Tryd.prog 64 #[.int .i64 f] w fun e w' => e = .returned (.string (nameOf f)) ∧ w = w' := by
  go_enter Tryd.func64, Tryd.ntmps64
  go_wp2
  all_goals go_ret
  · have h : (f == 1) = true := by assumption
    exact ⟨retS (nameIn 1 (by omega) (by omega) f (by simpa using h)).symm, rfl⟩
  · have h : (f == 2) = true := by assumption
    exact ⟨retS (nameIn 2 (by omega) (by omega) f (by simpa using h)).symm, rfl⟩
  · have h : (f == 3) = true := by assumption
    exact ⟨retS (nameIn 3 (by omega) (by omega) f (by simpa using h)).symm, rfl⟩
  · have h : (f == 4) = true := by assumption
    exact ⟨retS (nameIn 4 (by omega) (by omega) f (by simpa using h)).symm, rfl⟩
  · have h : (f == 5) = true := by assumption
    exact ⟨retS (nameIn 5 (by omega) (by omega) f (by simpa using h)).symm, rfl⟩
  · have h : (f == 6) = true := by assumption
    exact ⟨retS (nameIn 6 (by omega) (by omega) f (by simpa using h)).symm, rfl⟩
  · have h : (f == 7) = true := by assumption
    exact ⟨retS (nameIn 7 (by omega) (by omega) f (by simpa using h)).symm, rfl⟩
  · have h : (f == 8) = true := by assumption
    exact ⟨retS (nameIn 8 (by omega) (by omega) f (by simpa using h)).symm, rfl⟩
  · have h : (f == 9) = true := by assumption
    exact ⟨retS (nameIn 9 (by omega) (by omega) f (by simpa using h)).symm, rfl⟩
  · have h : (f == 10) = true := by assumption
    exact ⟨retS (nameIn 10 (by omega) (by omega) f (by simpa using h)).symm, rfl⟩
  · have e : nameOf f = ⟨#[]⟩ := nameOut f (by assumption) (by assumption) (by assumption) (by assumption) (by assumption) (by assumption) (by assumption) (by assumption) (by assumption) (by assumption)
    exact ⟨retS e.symm, rfl⟩


theorem vWrap (a : Int) (w : World) :
    Calls Tryd.prog 79 #[.int .i64 a] w fun e w' => e = .returned (.int .i64 (wrap32 a)) ∧ w = w' := by
  go_enter Tryd.func79, Tryd.ntmps79
  go_wp2
  go_ret
  exact ⟨retInt (w64w32 a), rfl⟩
theorem nameEmpty (f : Int) : (nameOf f).toList.isEmpty = !fnOk f := by
  unfold nameOf fnOk
  by_cases h : 1 ≤ f ∧ f ≤ 10
  · rw [if_pos h, decide_eq_true h, bytesData, Bool.not_true, List.isEmpty_eq_false_iff]
    exact nmFull _ (by omega) (by omega)
  · rw [if_neg h, decide_eq_false h, bytesData]
    rfl
/-- The name of a function is empty, or the function is one of the ten. -/
theorem vName (f : Int) (w : World) (hN : Nm w) :
    Calls Tryd.prog 78 #[.int .i64 f] w fun e w' => e = .returned (.string (nameOf f)) ∧ w = w' := by
  by_cases h : f < 1 ∨ 10 < f
  · exact vNameOut f h w
  · obtain ⟨j, rfl⟩ : ∃ j : Nat, f = j := ⟨f.toNat, by omega⟩
    have e : nameOf (j : Int) = nm j := by unfold nameOf; rw [if_pos (by omega)]; simp
    rw [e]
    exact vNameIn j (by omega) (by omega) w hN

theorem iIsOp (o : Int) (w : World) :
    Calls Tryd.prog 74 #[.int .i64 o] w fun e w' => e = .returned (.bool (opOk o)) ∧ w = w' := by
  go_enter Tryd.func74, Tryd.ntmps74
  go_wp2
  all_goals go_ret
  all_goals exact ⟨retB (by simp [opOk]; try omega), rfl⟩
theorem iIsReg (o : Int) (w : World) :
    Calls Tryd.prog 76 #[.int .i64 o] w fun e w' => e = .returned (.bool (rgOk o)) ∧ w = w' := by
  go_enter Tryd.func76, Tryd.ntmps76
  go_wp2
  all_goals go_ret
  all_goals exact ⟨retB (by simp [rgOk]; try omega), rfl⟩
theorem iIsOrd (o : Int) (w : World) :
    Calls Tryd.prog 77 #[.int .i64 o] w fun e w' => e = .returned (.bool (orOk o)) ∧ w = w' := by
  go_enter Tryd.func77, Tryd.ntmps77
  go_wp2
  all_goals go_ret
  all_goals exact ⟨retB (by simp [orOk]; try omega), rfl⟩
theorem rIsReg (o : Int) (w : World) :
    Calls Tryd.prog 63 #[.int .i64 o] w fun e w' => e = .returned (.bool (rgOk o)) ∧ w = w' := by
  go_enter Tryd.func63, Tryd.ntmps63
  go_wp2
  all_goals go_ret
  all_goals exact ⟨retB (by simp [rgOk]; try omega), rfl⟩
end Go.Proofs.YtebpnnakcodjdaaDoor
