/-
  The contracts of the program's operations on sets: Union, Intersect, Minus, Add, Remove, Subset.
-/
import Derived.Test.YtncpnkincdjgfaaDoorMkMrg
namespace Go.Proofs.YtncpnkincdjgfaaDoor
open Go.RowKit

theorem iSetOfN (l : List Int) (n : Nat) (hn : l.length = n) (r : List Int) (hr : mk l = r) (hs : n ≤ 65536) (A : Option Addr) (c : Nat) (w : World) (ha : Rd w A c l) :
    Calls Tryd.prog 49 #[.slice A n c] w (GivesL r w) := by
  subst hn; exact iSetOf l r hr hs A c w ha

theorem keepU (p q : Bool) (w : World) : Calls Tryd.prog 71 #[.bool p, .bool q] w fun e w' => e = .returned (.bool (fU p q)) ∧ w = w' := by
  go_enter Tryd.func71, Tryd.ntmps71
  go_wp2
  go_ret
  exact ⟨rfl, rfl⟩
theorem entU : ∀ args w, (callFunc 71 args).run Tryd.prog w = .ok (.enter 71 args) w := enters_of Tryd.func71 (by kernel_rfl) rfl
set_option maxHeartbeats 400000 in
theorem iUnion (l m : List Int) (n k : Nat) (hn : l.length = n) (hk : m.length = k) (r : List Int) (hr : uni l m = r) (hs : n ≤ 30000) (hs' : k ≤ 30000) (A B : Option Addr) (c d : Nat) (w : World) (ha : Rd w A c l) (hb : Rd w B d m) :
    Calls Tryd.prog 48 #[.slice A n c, .slice B k d] w (GivesL r w) := by
  have HA := Lib.hid ha; clear ha
  have HB := Lib.hid hb; clear hb
  have HR := Lib.hid ((mrgU l m).trans hr); clear hr
  have HN := Lib.hid hn; clear hn
  have HK := Lib.hid hk; clear hk
  go_enter Tryd.func48, Tryd.ntmps48
  go_wp2_with fail
  refine (iSetOfN l n HN.out _ rfl (by omega) A c _ HA.out).mono ?_
  rintro e w1 ⟨A1, c1, rfl, r1, b1⟩
  have hl1 := lenMk l
  have hl2 := lenMk m
  rw [HN.out] at hl1
  rw [HK.out] at hl2
  obtain ⟨n1, HN1⟩ : ∃ n1, Hid ((mk l).length = n1) := ⟨_, rfl⟩
  rw [HN1.out] at hl1 ⊢
  go_wp2_with fail
  refine (iSetOfN m k HK.out _ rfl (by omega) B d _ (HB.out.below b1)).mono ?_
  rintro e w2 ⟨A2, c2, rfl, r2, b2⟩
  obtain ⟨n2, HN2⟩ : ∃ n2, Hid ((mk m).length = n2) := ⟨_, rfl⟩
  rw [HN2.out] at hl2 ⊢
  go_wp2_with fail
  refine (iMerge fU 71 entU keepU (mk l) (mk m) n1 n2 HN1.out HN2.out r HR.out (by omega) (by omega) A1 A2 c1 c2 _ (r1.below b2) r2).mono ?_
  rintro e w3 ⟨A3, c3, rfl, r3, b3⟩
  go_wp2
  go_ret
  exact ⟨A3, c3, rfl, r3, belowThen (belowThen b1 b2) b3⟩
set_option maxHeartbeats 400000 in
theorem iAdd (l : List Int) (x : Int) (n : Nat) (hn : l.length = n) (r : List Int) (hr : uni l [x] = r) (hs : n ≤ 30000) (A : Option Addr) (c : Nat) (w : World) (ha : Rd w A c l) :
    Calls Tryd.prog 37 #[.slice A n c, .int .i64 x] w (GivesL r w) := by
  have HA := Lib.hid ha; clear ha
  have HR := Lib.hid hr; clear hr
  have HN := Lib.hid hn; clear hn
  have B0 : Below w.heap.size w (w.alloc (.cells #[.int .i64 x] 3)) := (Below.refl _ w).alloc (Nat.le_refl _) _
  go_enter Tryd.func37, Tryd.ntmps37
  go_wp2_with fail
  refine (iSetOfN [x] 1 rfl [x] (mkSelf (by simp [Srt])) (by omega) _ 1 _ (Rd.lit w [x] 3 (by simp))).mono ?_
  rintro e w1 ⟨A1, c1, rfl, r1, b1⟩
  have B1 := belowThen B0 b1
  go_wp2_with fail
  refine (iUnion l [x] n 1 HN.out rfl r HR.out hs (by omega) A A1 c c1 _ (HA.out.below B1) r1).mono ?_
  rintro e w3 ⟨A3, c3, rfl, r3, b3⟩
  go_wp2
  go_ret
  exact ⟨A3, c3, rfl, r3, belowThen B1 b3⟩

theorem subLen {l m r : List Int} {b : Bool} (hr : min' l m = r) (hb : subB l m = b) : ((r.length : Int) == 0) = b := by
  rw [← hb, ← minEmpty, hr, Bool.eq_iff_iff]
  simp
end Go.Proofs.YtncpnkincdjgfaaDoor
