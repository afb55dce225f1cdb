/-
  The contracts of the functions that name operations and orders, of the program and of the specification.
-/
import Derived.Test.YtnckpjcfgeajbaaDoorInsC
import Derived.IntWalk
namespace Go.Proofs.YtnckpjcfgeajbaaDoor
open Go.RowKit

theorem mnOfAt (m : Nat) (hm : m < 22) : mnOf ((m : Int) + 1) = mn (m + 1) := by
  unfold mnOf
  rw [if_pos (by simp [opOk]; omega)]
  congr 1
theorem mnOfNo {o : Int} (h : opOk o = false) : mnOf o = ⟨#[]⟩ := by unfold mnOf; rw [h]; rfl
theorem orOfAt (m : Nat) (hm : m < 3) : ornOf (m : Int) = orn m := by
  unfold ornOf
  rw [if_pos (by simp [orOk]; omega)]
  congr 1
theorem orOfNo {o : Int} (h : orOk o = false) : ornOf o = ⟨#[]⟩ := by unfold ornOf; rw [h]; rfl

theorem iMnem (o : Int) (r : ByteArray) (hr : mnOf o = r) (w : World) (hT : InsT w) :
    Calls Tryd.prog 18 #[.int .i64 o] w fun e w' => e = .returned (.string r) ∧ w = w' := by
  subst hr
  cases h : opOk o with
  | false =>
    have HE := Lib.hid (mnOfNo h)
    go_enter Tryd.func18, Tryd.ntmps18
    go_wp2_with (go_at_call 36; refine (iIsOp _ _).mono ?_; rintro e w' ⟨rfl, rfl⟩; rw [h])
    go_ret
    exact ⟨retS HE.out.symm, rfl⟩
  | true =>
    have h' := h
    simp only [opOk, decide_eq_true_eq] at h'
    obtain ⟨m, rfl⟩ : ∃ m : Nat, o = (m : Int) + 1 := ⟨(o - 1).toNat, by omega⟩
    obtain ⟨k, hk⟩ : ∃ k, m + 1 = k := ⟨_, rfl⟩
    have hkk : ((m : Int) + 1) = (k : Int) := by omega
    have hc := hT.nm k (by omega)
    have HE := Lib.hid ((mnOfAt m (by omega)).trans (by rw [hk]))
    rw [hkk] at HE h ⊢
    have hk0 : (0 : Int) ≤ k := by omega
    have hk23 : (k : Int) < 23 := by omega
    have hkn : (k : Int).toNat = k := by omega
    go_enter Tryd.func18, Tryd.ntmps18
    go_wp2_with (go_at_call 36; refine (iIsOp _ _).mono ?_; rintro e w' ⟨rfl, rfl⟩; rw [h])
    go_ret
    exact ⟨retS HE.out.symm, rfl⟩

theorem iOrd (o : Int) (r : ByteArray) (hr : ornOf o = r) (w : World) (hT : OrT w) :
    Calls Tryd.prog 74 #[.int .i64 o] w fun e w' => e = .returned (.string r) ∧ w = w' := by
  subst hr
  cases h : orOk o with
  | false =>
    have HE := Lib.hid (orOfNo h)
    go_enter Tryd.func74, Tryd.ntmps74
    go_wp2_with (go_at_call 50; refine (iIsOrd _ _).mono ?_; rintro e w' ⟨rfl, rfl⟩; rw [h])
    go_ret
    exact ⟨retS HE.out.symm, rfl⟩
  | true =>
    have h' := h
    simp only [orOk, decide_eq_true_eq] at h'
    obtain ⟨k, rfl⟩ : ∃ m : Nat, o = (m : Int) := ⟨o.toNat, by omega⟩
    have hc := hT k (by omega)
    have HE := Lib.hid (orOfAt k (by omega))
    have hk0 : (0 : Int) ≤ k := by omega
    have hk23 : (k : Int) < 3 := by omega
    have hkn : (k : Int).toNat = k := by omega
    go_enter Tryd.func74, Tryd.ntmps74
    go_wp2_with (go_at_call 50; refine (iIsOrd _ _).mono ?_; rintro e w' ⟨rfl, rfl⟩; rw [h])
    go_ret
    exact ⟨retS HE.out.symm, rfl⟩

end Go.Proofs.YtnckpjcfgeajbaaDoor
