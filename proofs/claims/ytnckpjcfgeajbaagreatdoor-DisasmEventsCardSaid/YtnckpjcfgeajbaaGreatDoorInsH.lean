/-
  The contracts of the functions that name operations and orders, of the program and of the specification.
-/
import Derived.Test.YtnckpjcfgeajbaaGreatDoorInsF
namespace Go.Proofs.YtnckpjcfgeajbaaGreatDoor
open Go.RowKit

theorem mnAt {m : Nat} (hm : m < 22) : (mnTab.drop 1)[m]'(by simpa [mnTab] using hm) = mn (m + 1) := by
  unfold mn
  rw [List.getD_eq_getElem?_getD, List.getElem?_eq_getElem (show m + 1 < mnTab.length by simp [mnTab]; omega)]
  simp
theorem mnOfAt (m : Nat) (hm : m < 22) : mnOf ((m : Int) + 1) = mn (m + 1) := by
  unfold mnOf
  rw [if_pos (by simp [opOk]; omega)]
  congr 1
theorem mnOfNo {o : Int} (h : opOk o = false) : mnOf o = ⟨#[]⟩ := by unfold mnOf; rw [h]; rfl
theorem orOfAt (m : Nat) (hm : m < 3) : ornOf (m : Int) = orn m := by
  unfold ornOf
  rw [if_pos (by simp [orOk]; omega)]
  congr 1
theorem orOfNo {o : Int} (h : orOk o = false) : ornOf o = ⟨#[]⟩ := by unfold ornOf; rw [h]; rfl

theorem iMnem (o : Int) (r : ByteArray) (hr : mnOf o = r) (w : World) (hT : InsT w) :
    Calls Tryz.prog 57 #[.int .i64 o] w fun e w' => e = .returned (.string r) ∧ w = w' := by
  subst hr
  cases h : opOk o with
  | false =>
    have HE := Lib.hid (mnOfNo h)
    go_enter Tryz.func57, Tryz.ntmps57
    go_wp2_with (go_at_call 121; refine (iIsOp _ _).mono ?_; rintro e w' ⟨rfl, rfl⟩; rw [h])
    go_ret
    exact ⟨retS HE.out.symm, rfl⟩
  | true =>
    have h' := h
    simp only [opOk, decide_eq_true_eq] at h'
    obtain ⟨m, rfl⟩ : ∃ m : Nat, o = (m : Int) + 1 := ⟨(o - 1).toNat, by omega⟩
    obtain ⟨k, hk⟩ : ∃ k, m + 1 = k := ⟨_, rfl⟩
    have hkk : ((m : Int) + 1) = (k : Int) := by omega
    have hc := hT.nm k (by omega)
    have HE := Lib.hid ((mnOfAt m (by omega)).trans (by rw [hk]))
    rw [hkk] at HE h ⊢
    have hk0 : (0 : Int) ≤ k := by omega
    have hk23 : (k : Int) < 23 := by omega
    have hkn : (k : Int).toNat = k := by omega
    go_enter Tryz.func57, Tryz.ntmps57
    go_wp2_with (go_at_call 121; refine (iIsOp _ _).mono ?_; rintro e w' ⟨rfl, rfl⟩; rw [h])
    go_ret
    exact ⟨retS HE.out.symm, rfl⟩

theorem rMnem (o : Int) (r : ByteArray) (hr : mnOf o = r) (w : World) :
    Calls Tryz.prog 131 #[.int .i64 o] w fun e w' => e = .returned (.string r) ∧ Below w.heap.size w w' := by
  subst hr
  by_cases h1 : o < 1
  · have HE := Lib.hid (mnOfNo (o := o) (by simp [opOk]; omega))
    go_enter Tryz.func131, Tryz.ntmps131
    go_wp2
    go_ret
    exact ⟨retS HE.out.symm, Below.refl _ _⟩
  · by_cases h2 : 22 < o
    · have HE := Lib.hid (mnOfNo (o := o) (by simp [opOk]; omega))
      have h3 : 1 ≤ o := by omega
      clear h1
      go_enter Tryz.func131, Tryz.ntmps131
      go_wp2
      go_ret
      exact ⟨retS HE.out.symm, Below.refl _ _⟩
    · obtain ⟨m, rfl⟩ : ∃ m : Nat, o = (m : Int) + 1 := ⟨(o - 1).toNat, by omega⟩
      have hm : m < 22 := by omega
      have HE := Lib.hid (mnOfAt m hm)
      have HA := Lib.hid (mnAt hm)
      have hwr : IntKind.i64.wrap ((m : Int) + 1 - 1) = m := by rw [show (m : Int) + 1 - 1 = m by omega]; exact IntWalk.i64_in _ (by omega)
      clear h1 h2
      go_enter Tryz.func131, Tryz.ntmps131
      go_wp2_with fail
      refine (rNames _).mono ?_
      rintro e w1 ⟨A, cp, rfl, hr, hb⟩
      obtain ⟨ad, rfl, hcell⟩ := strsAt hr (k := m) (by simpa [mnTab] using hm)
      rw [HA.out] at hcell
      clear hr
      go_wp2
      go_ret
      exact ⟨retS HE.out.symm, hb⟩

theorem iOrd (o : Int) (r : ByteArray) (hr : ornOf o = r) (w : World) (hT : OrT w) :
    Calls Tryz.prog 183 #[.int .i64 o] w fun e w' => e = .returned (.string r) ∧ w = w' := by
  subst hr
  cases h : orOk o with
  | false =>
    have HE := Lib.hid (orOfNo h)
    go_enter Tryz.func183, Tryz.ntmps183
    go_wp2_with (go_at_call 136; refine (iIsOrd _ _).mono ?_; rintro e w' ⟨rfl, rfl⟩; rw [h])
    go_ret
    exact ⟨retS HE.out.symm, rfl⟩
  | true =>
    have h' := h
    simp only [orOk, decide_eq_true_eq] at h'
    obtain ⟨k, rfl⟩ : ∃ m : Nat, o = (m : Int) := ⟨o.toNat, by omega⟩
    have hc := hT k (by omega)
    have HE := Lib.hid (orOfAt k (by omega))
    have hk0 : (0 : Int) ≤ k := by omega
    have hk23 : (k : Int) < 3 := by omega
    have hkn : (k : Int).toNat = k := by omega
    go_enter Tryz.func183, Tryz.ntmps183
    go_wp2_with (go_at_call 136; refine (iIsOrd _ _).mono ?_; rintro e w' ⟨rfl, rfl⟩; rw [h])
    go_ret
    exact ⟨retS HE.out.symm, rfl⟩

theorem rOrd (o : Int) (r : ByteArray) (hr : ornOf o = r) (w : World) :
    Calls Tryz.prog 71 #[.int .i64 o] w fun e w' => e = .returned (.string r) ∧ Below w.heap.size w w' := by
  subst hr
  by_cases h1 : o < 0
  · have HE := Lib.hid (orOfNo (o := o) (by simp [orOk]; omega))
    go_enter Tryz.func71, Tryz.ntmps71
    go_wp2
    go_ret
    exact ⟨retS HE.out.symm, Below.refl _ _⟩
  · by_cases h2 : 2 < o
    · have HE := Lib.hid (orOfNo (o := o) (by simp [orOk]; omega))
      have h3 : 0 ≤ o := by omega
      clear h1
      go_enter Tryz.func71, Tryz.ntmps71
      go_wp2
      go_ret
      exact ⟨retS HE.out.symm, Below.refl _ _⟩
    · have hb := belowAlloc w (.cells (strs orTab).toArray 9)
      have ho : o = 0 ∨ o = 1 ∨ o = 2 := by omega
      clear h1 h2
      rcases ho with rfl | rfl | rfl
      all_goals (
        go_enter Tryz.func71, Tryz.ntmps71
        go_wp2
        go_ret
        exact ⟨rfl, hb⟩)

end Go.Proofs.YtnckpjcfgeajbaaGreatDoor
