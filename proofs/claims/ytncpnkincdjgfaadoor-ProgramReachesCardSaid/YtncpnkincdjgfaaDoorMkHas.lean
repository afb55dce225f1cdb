/-
  The contracts of slices.Contains at integers and of intset.Has.
-/
import Derived.Test.YtncpnkincdjgfaaDoorMkOf
namespace Go.Proofs.YtncpnkincdjgfaaDoor
open Go.RowKit Go.Sort

theorem containsB (l : List Int) (n : Int) : l.contains n = memB l n := by
  simp [memB]
theorem iContains (l : List Int) (n : Int) (r : Bool) (hr : memB l n = r) (A : Option Addr) (c : Nat) (w : World) (ha : Rd w A c l) :
    Calls Tryd.prog 51 #[.slice A l.length c, .int .i64 n] w fun e w' => e = .returned (.bool r) ∧ w = w' := by
  subst hr
  rcases Nat.eq_zero_or_pos l.length with h0 | h0
  · obtain rfl : l = [] := List.eq_nil_of_length_eq_zero h0
    exact (Tryd.slices_Contains_int_empty A c n w).mono fun e w' ⟨h1, h2⟩ => ⟨by rw [h1]; rfl, h2.symm⟩
  · obtain ⟨b, off, rfl, _, hc⟩ := ha.plain h0
    have h1 := ha.le
    have h2 := ha.max
    unfold maxLen at h2
    refine (Tryd.slices_Contains_int b off l.length c l n w (Nat.le_refl _) (by omega) hc).mono fun e w' ⟨h1, h2⟩ => ⟨by rw [h1, List.take_length, containsB], h2.symm⟩

theorem iHas (l : List Int) (n : Int) (r : Bool) (hr : memB l n = r) (A : Option Addr) (c : Nat) (w : World) (ha : Rd w A c l) :
    Calls Tryd.prog 39 #[.slice A l.length c, .int .i64 n] w fun e w' => e = .returned (.bool r) ∧ w = w' := by
  go_enter Tryd.func39, Tryd.ntmps39
  have HA := Lib.hid ha; clear ha
  have HR := Lib.hid hr; clear hr
  go_wp2_with fail
  refine (iContains l n r HR.out A c _ HA.out).mono ?_
  rintro e w3 ⟨rfl, rfl⟩
  go_wp2
  go_ret
  exact ⟨rfl, rfl⟩
end Go.Proofs.YtncpnkincdjgfaaDoor
