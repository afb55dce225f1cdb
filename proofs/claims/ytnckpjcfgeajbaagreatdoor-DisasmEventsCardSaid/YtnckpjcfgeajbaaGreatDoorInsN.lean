/-
  The contracts of the small functions that the checks of instructions call: the names of the functions (value.Name and the specification's), value.Wrap, and the tests of an operation, a register, an order, and the contents of the fields.
-/
import Derived.Test.YtnckpjcfgeajbaaGreatDoorInsT
import Derived.Test.YtnckpjcfgeajbaaGreatDoorRows
import Derived.WalkKit
import Derived.WalkSpells
import Derived.WalkLawsBesides
import Derived.Lib.Hide
import Derived.Lib.SmallJoins
import Derived.Lib.Strings
namespace Go.Proofs.YtnckpjcfgeajbaaGreatDoor
open Go.RowKit

theorem w64w32 (a : Int) : wrap64 (wrap32 a) = wrap32 a := by
  simp only [wrap64, wrap32]; omega

/-- The names, by number; number 0 has the empty one. -/
def nmTab : List ByteArray := [⟨#[]⟩, ⟨#[97, 100, 100]⟩, ⟨#[115, 117, 98]⟩, ⟨#[109, 117, 108]⟩, ⟨#[97, 110, 100]⟩, ⟨#[111, 114]⟩, ⟨#[120, 111, 114]⟩, ⟨#[101, 113]⟩, ⟨#[110, 101]⟩, ⟨#[108, 116]⟩, ⟨#[108, 101]⟩]
def nm (k : Nat) : ByteArray := nmTab.getD k ⟨#[]⟩
/-- The table of names is laid. -/
def Nm (w : World) : Prop := ∀ k, k < 11 → w.cell? ⟨3, k, none⟩ = some (.string (nm k))
def nameOf (f : Int) : ByteArray := if 1 ≤ f ∧ f ≤ 10 then nm f.toNat else ⟨#[]⟩

theorem nmFull : ∀ j, j < 11 → 1 ≤ j → (nm j).data.toList ≠ [] := by decide
theorem vNameOut (f : Int) (h : f < 1 ∨ 10 < f) (w : World) :
    Calls Tryz.prog 137 #[.int .i64 f] w fun e w' => e = .returned (.string (nameOf f)) ∧ w = w' := by
  have HE : Hid (nameOf f = ⟨#[]⟩) := Lib.hid (by unfold nameOf; rw [if_neg (by omega)])
  rcases h with h | h
  · go_enter Tryz.func137, Tryz.ntmps137
    go_wp2
    go_ret
    exact ⟨by rw [HE.out]; rfl, rfl⟩
  · have h' : 1 ≤ f := by omega
    go_enter Tryz.func137, Tryz.ntmps137
    go_wp2
    go_ret
    exact ⟨by rw [HE.out]; rfl, rfl⟩

theorem vNameIn (k : Nat) (h1 : 1 ≤ k) (h2 : k ≤ 10) (w : World) (hN : Nm w) :
    Calls Tryz.prog 137 #[.int .i64 (k : Int)] w fun e w' => e = .returned (.string (nm k)) ∧ w = w' := by
  have hc := hN k (by omega)
  go_enter Tryz.func137, Tryz.ntmps137
  go_wp2
  go_ret
  exact ⟨rfl, rfl⟩

theorem nameIn (k : Nat) (h1 : 1 ≤ k) (h2 : k ≤ 10) (f : Int) (h : f = k) : nameOf f = nm k := by
  subst h
  unfold nameOf
  rw [if_pos (by omega)]
  rfl
theorem nameOut (f : Int) (h1 : (f == 1) = false) (h2 : (f == 2) = false) (h3 : (f == 3) = false) (h4 : (f == 4) = false) (h5 : (f == 5) = false) (h6 : (f == 6) = false) (h7 : (f == 7) = false) (h8 : (f == 8) = false) (h9 : (f == 9) = false) (h10 : (f == 10) = false) :
    nameOf f = ⟨#[]⟩ := by
  simp only [beq_eq_false_iff_ne] at h1 h2 h3 h4 h5 h6 h7 h8 h9 h10
  unfold nameOf
  rw [if_neg (by omega)]
theorem retS {a b : ByteArray} (h : a = b) : Ending.returned (.string a) = .returned (.string b) := by rw [h]

set_option maxHeartbeats 1000000 in
theorem rName (f : Int) (w : World) :
    Calls Tryz.prog 141 #[.int .i64 f] w fun e w' => e = .returned (.string (nameOf f)) ∧ w = w' := by
  go_enter Tryz.func141, Tryz.ntmps141
  go_wp2
  all_goals go_ret
  · have h : (f == 1) = true := by assumption
    exact ⟨retS (nameIn 1 (by omega) (by omega) f (by simpa using h)).symm, rfl⟩
  · have h : (f == 2) = true := by assumption
    exact ⟨retS (nameIn 2 (by omega) (by omega) f (by simpa using h)).symm, rfl⟩
  · have h : (f == 3) = true := by assumption
    exact ⟨retS (nameIn 3 (by omega) (by omega) f (by simpa using h)).symm, rfl⟩
  · have h : (f == 4) = true := by assumption
    exact ⟨retS (nameIn 4 (by omega) (by omega) f (by simpa using h)).symm, rfl⟩
  · have h : (f == 5) = true := by assumption
    exact ⟨retS (nameIn 5 (by omega) (by omega) f (by simpa using h)).symm, rfl⟩
  · have h : (f == 6) = true := by assumption
    exact ⟨retS (nameIn 6 (by omega) (by omega) f (by simpa using h)).symm, rfl⟩
  · have h : (f == 7) = true := by assumption
    exact ⟨retS (nameIn 7 (by omega) (by omega) f (by simpa using h)).symm, rfl⟩
  · have h : (f == 8) = true := by assumption
    exact ⟨retS (nameIn 8 (by omega) (by omega) f (by simpa using h)).symm, rfl⟩
  · have h : (f == 9) = true := by assumption
    exact ⟨retS (nameIn 9 (by omega) (by omega) f (by simpa using h)).symm, rfl⟩
  · have h : (f == 10) = true := by assumption
    exact ⟨retS (nameIn 10 (by omega) (by omega) f (by simpa using h)).symm, rfl⟩
  · have e : nameOf f = ⟨#[]⟩ := nameOut f (by assumption) (by assumption) (by assumption) (by assumption) (by assumption) (by assumption) (by assumption) (by assumption) (by assumption) (by assumption)
    exact ⟨retS e.symm, rfl⟩


theorem vWrap (a : Int) (w : World) :
    Calls Tryz.prog 138 #[.int .i64 a] w fun e w' => e = .returned (.int .i64 (wrap32 a)) ∧ w = w' := by
  go_enter Tryz.func138, Tryz.ntmps138
  go_wp2
  go_ret
  exact ⟨retInt (w64w32 a), rfl⟩
theorem nameEmpty (f : Int) : (nameOf f).toList.isEmpty = !fnOk f := by
  unfold nameOf fnOk
  by_cases h : 1 ≤ f ∧ f ≤ 10
  · rw [if_pos h, decide_eq_true h, bytesData, Bool.not_true, List.isEmpty_eq_false_iff]
    exact nmFull _ (by omega) (by omega)
  · rw [if_neg h, decide_eq_false h, bytesData]
    rfl
/-- The name of a function is empty, or the function is one of the ten. -/
theorem vName (f : Int) (w : World) (hN : Nm w) :
    Calls Tryz.prog 137 #[.int .i64 f] w fun e w' => e = .returned (.string (nameOf f)) ∧ w = w' := by
  by_cases h : f < 1 ∨ 10 < f
  · exact vNameOut f h w
  · obtain ⟨j, rfl⟩ : ∃ j : Nat, f = j := ⟨f.toNat, by omega⟩
    have e : nameOf (j : Int) = nm j := by unfold nameOf; rw [if_pos (by omega)]; simp
    rw [e]
    exact vNameIn j (by omega) (by omega) w hN

theorem iIsOp (o : Int) (w : World) :
    Calls Tryz.prog 121 #[.int .i64 o] w fun e w' => e = .returned (.bool (opOk o)) ∧ w = w' := by
  go_enter Tryz.func121, Tryz.ntmps121
  go_wp2
  all_goals go_ret
  all_goals exact ⟨retB (by simp [opOk]; try omega), rfl⟩
theorem iIsReg (o : Int) (w : World) :
    Calls Tryz.prog 135 #[.int .i64 o] w fun e w' => e = .returned (.bool (rgOk o)) ∧ w = w' := by
  go_enter Tryz.func135, Tryz.ntmps135
  go_wp2
  all_goals go_ret
  all_goals exact ⟨retB (by simp [rgOk]; try omega), rfl⟩
theorem iIsOrd (o : Int) (w : World) :
    Calls Tryz.prog 136 #[.int .i64 o] w fun e w' => e = .returned (.bool (orOk o)) ∧ w = w' := by
  go_enter Tryz.func136, Tryz.ntmps136
  go_wp2
  all_goals go_ret
  all_goals exact ⟨retB (by simp [orOk]; try omega), rfl⟩
theorem rIsReg (o : Int) (w : World) :
    Calls Tryz.prog 140 #[.int .i64 o] w fun e w' => e = .returned (.bool (rgOk o)) ∧ w = w' := by
  go_enter Tryz.func140, Tryz.ntmps140
  go_wp2
  all_goals go_ret
  all_goals exact ⟨retB (by simp [rgOk]; try omega), rfl⟩
end Go.Proofs.YtnckpjcfgeajbaaGreatDoor
