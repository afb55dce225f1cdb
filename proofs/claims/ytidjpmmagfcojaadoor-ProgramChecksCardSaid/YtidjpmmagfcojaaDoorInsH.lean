/-
  The contracts of the functions that name operations and orders, of the program and of the specification.
-/
import Derived.Test.YtidjpmmagfcojaaDoorInsF
namespace Go.Proofs.YtidjpmmagfcojaaDoor
open Go.RowKit

theorem mnAt {m : Nat} (hm : m < 22) : (mnTab.drop 1)[m]'(by simpa [mnTab] using hm) = mn (m + 1) := by
  unfold mn
  rw [List.getD_eq_getElem?_getD, List.getElem?_eq_getElem (show m + 1 < mnTab.length by simp [mnTab]; omega)]
  simp
theorem mnOfAt (m : Nat) (hm : m < 22) : mnOf ((m : Int) + 1) = mn (m + 1) := by
  unfold mnOf
  rw [if_pos (by simp [opOk]; omega)]
  congr 1
theorem mnOfNo {o : Int} (h : opOk o = false) : mnOf o = ⟨#[]⟩ := by unfold mnOf; rw [h]; rfl
theorem orOfAt (m : Nat) (hm : m < 3) : ornOf (m : Int) = orn m := by
  unfold ornOf
  rw [if_pos (by simp [orOk]; omega)]
  congr 1
theorem orOfNo {o : Int} (h : orOk o = false) : ornOf o = ⟨#[]⟩ := by unfold ornOf; rw [h]; rfl

theorem iMnem (o : Int) (r : ByteArray) (hr : mnOf o = r) (w : World) (hT : InsT w) :
    Calls Tryd.prog 78 #[.int .i64 o] w fun e w' => e = .returned (.string r) ∧ w = w' := by
  subst hr
  cases h : opOk o with
  | false =>
    have HE := Lib.hid (mnOfNo h)
    go_enter Tryd.func78, Tryd.ntmps78
    go_wp2_with (go_at_call 72; refine (iIsOp _ _).mono ?_; rintro e w' ⟨rfl, rfl⟩; rw [h])
    go_ret
    exact ⟨retS HE.out.symm, rfl⟩
  | true =>
    have h' := h
    simp only [opOk, decide_eq_true_eq] at h'
    obtain ⟨m, rfl⟩ : ∃ m : Nat, o = (m : Int) + 1 := ⟨(o - 1).toNat, by omega⟩
    obtain ⟨k, hk⟩ : ∃ k, m + 1 = k := ⟨_, rfl⟩
    have hkk : ((m : Int) + 1) = (k : Int) := by omega
    have hc := hT.nm k (by omega)
    have HE := Lib.hid ((mnOfAt m (by omega)).trans (by rw [hk]))
    rw [hkk] at HE h ⊢
    have hk0 : (0 : Int) ≤ k := by omega
    have hk23 : (k : Int) < 23 := by omega
    have hkn : (k : Int).toNat = k := by omega
    go_enter Tryd.func78, Tryd.ntmps78
    go_wp2_with (go_at_call 72; refine (iIsOp _ _).mono ?_; rintro e w' ⟨rfl, rfl⟩; rw [h])
    go_ret
    exact ⟨retS HE.out.symm, rfl⟩

end Go.Proofs.YtidjpmmagfcojaaDoor
