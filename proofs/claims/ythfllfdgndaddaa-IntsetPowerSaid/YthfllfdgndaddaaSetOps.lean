/-
  The contracts of the program's operations on sets: Union, Intersect, Minus, Add, Remove, Subset.
-/
import Derived.Test.YthfllfdgndaddaaMerge
namespace Go.Proofs.Ythfllfdgndaddaa
open Go.RowKit

theorem iSetOfN (l : List Int) (n : Nat) (hn : l.length = n) (r : List Int) (hr : mk l = r) (hs : n ≤ 65536) (A : Option Addr) (c : Nat) (w : World) (ha : Rd w A c l) :
    Calls Try.prog 34 #[.slice A n c] w (GivesL r w) := by
  subst hn; exact iSetOf l r hr hs A c w ha

theorem keepU (p q : Bool) (w : World) : Calls Try.prog 38 #[.bool p, .bool q] w fun e w' => e = .returned (.bool (fU p q)) ∧ w = w' := by
  go_enter Try.func38, Try.ntmps38
  go_wp2
  go_ret
  exact ⟨rfl, rfl⟩
theorem keepI (p q : Bool) (w : World) : Calls Try.prog 39 #[.bool p, .bool q] w fun e w' => e = .returned (.bool (fI p q)) ∧ w = w' := by
  cases p <;> cases q <;>
  (go_enter Try.func39, Try.ntmps39
   go_wp2
   go_ret
   exact ⟨rfl, rfl⟩)
theorem keepM (p q : Bool) (w : World) : Calls Try.prog 40 #[.bool p, .bool q] w fun e w' => e = .returned (.bool (fM p q)) ∧ w = w' := by
  cases p <;> cases q <;>
  (go_enter Try.func40, Try.ntmps40
   go_wp2
   go_ret
   exact ⟨rfl, rfl⟩)
theorem entU : ∀ args w, (callFunc 38 args).run Try.prog w = .ok (.enter 38 args) w := enters_of Try.func38 (by kernel_rfl) rfl
theorem entI : ∀ args w, (callFunc 39 args).run Try.prog w = .ok (.enter 39 args) w := enters_of Try.func39 (by kernel_rfl) rfl
theorem entM : ∀ args w, (callFunc 40 args).run Try.prog w = .ok (.enter 40 args) w := enters_of Try.func40 (by kernel_rfl) rfl

set_option maxHeartbeats 400000 in
theorem iUnion (l m : List Int) (n k : Nat) (hn : l.length = n) (hk : m.length = k) (r : List Int) (hr : uni l m = r) (hs : n ≤ 30000) (hs' : k ≤ 30000) (A B : Option Addr) (c d : Nat) (w : World) (ha : Rd w A c l) (hb : Rd w B d m) :
    Calls Try.prog 21 #[.slice A n c, .slice B k d] w (GivesL r w) := by
  have HA := Lib.hid ha; clear ha
  have HB := Lib.hid hb; clear hb
  have HR := Lib.hid ((mrgU l m).trans hr); clear hr
  have HN := Lib.hid hn; clear hn
  have HK := Lib.hid hk; clear hk
  go_enter Try.func21, Try.ntmps21
  go_wp2_with fail
  refine (iSetOfN l n HN.out _ rfl (by omega) A c _ HA.out).mono ?_
  rintro e w1 ⟨A1, c1, rfl, r1, b1⟩
  have hl1 := lenMk l
  have hl2 := lenMk m
  rw [HN.out] at hl1
  rw [HK.out] at hl2
  obtain ⟨n1, HN1⟩ : ∃ n1, Hid ((mk l).length = n1) := ⟨_, rfl⟩
  rw [HN1.out] at hl1 ⊢
  go_wp2_with fail
  refine (iSetOfN m k HK.out _ rfl (by omega) B d _ (HB.out.below b1)).mono ?_
  rintro e w2 ⟨A2, c2, rfl, r2, b2⟩
  obtain ⟨n2, HN2⟩ : ∃ n2, Hid ((mk m).length = n2) := ⟨_, rfl⟩
  rw [HN2.out] at hl2 ⊢
  go_wp2_with fail
  refine (iMerge fU 38 entU keepU (mk l) (mk m) n1 n2 HN1.out HN2.out r HR.out (by omega) (by omega) A1 A2 c1 c2 _ (r1.below b2) r2).mono ?_
  rintro e w3 ⟨A3, c3, rfl, r3, b3⟩
  go_wp2
  go_ret
  exact ⟨A3, c3, rfl, r3, belowThen (belowThen b1 b2) b3⟩
set_option maxHeartbeats 400000 in
theorem iIntersect (l m : List Int) (n k : Nat) (hn : l.length = n) (hk : m.length = k) (r : List Int) (hr : int' l m = r) (hs : n ≤ 30000) (hs' : k ≤ 30000) (A B : Option Addr) (c d : Nat) (w : World) (ha : Rd w A c l) (hb : Rd w B d m) :
    Calls Try.prog 23 #[.slice A n c, .slice B k d] w (GivesL r w) := by
  have HA := Lib.hid ha; clear ha
  have HB := Lib.hid hb; clear hb
  have HR := Lib.hid ((mrgI l m).trans hr); clear hr
  have HN := Lib.hid hn; clear hn
  have HK := Lib.hid hk; clear hk
  go_enter Try.func23, Try.ntmps23
  go_wp2_with fail
  refine (iSetOfN l n HN.out _ rfl (by omega) A c _ HA.out).mono ?_
  rintro e w1 ⟨A1, c1, rfl, r1, b1⟩
  have hl1 := lenMk l
  have hl2 := lenMk m
  rw [HN.out] at hl1
  rw [HK.out] at hl2
  obtain ⟨n1, HN1⟩ : ∃ n1, Hid ((mk l).length = n1) := ⟨_, rfl⟩
  rw [HN1.out] at hl1 ⊢
  go_wp2_with fail
  refine (iSetOfN m k HK.out _ rfl (by omega) B d _ (HB.out.below b1)).mono ?_
  rintro e w2 ⟨A2, c2, rfl, r2, b2⟩
  obtain ⟨n2, HN2⟩ : ∃ n2, Hid ((mk m).length = n2) := ⟨_, rfl⟩
  rw [HN2.out] at hl2 ⊢
  go_wp2_with fail
  refine (iMerge fI 39 entI keepI (mk l) (mk m) n1 n2 HN1.out HN2.out r HR.out (by omega) (by omega) A1 A2 c1 c2 _ (r1.below b2) r2).mono ?_
  rintro e w3 ⟨A3, c3, rfl, r3, b3⟩
  go_wp2
  go_ret
  exact ⟨A3, c3, rfl, r3, belowThen (belowThen b1 b2) b3⟩
set_option maxHeartbeats 400000 in
theorem iMinus (l m : List Int) (n k : Nat) (hn : l.length = n) (hk : m.length = k) (r : List Int) (hr : min' l m = r) (hs : n ≤ 30000) (hs' : k ≤ 30000) (A B : Option Addr) (c d : Nat) (w : World) (ha : Rd w A c l) (hb : Rd w B d m) :
    Calls Try.prog 25 #[.slice A n c, .slice B k d] w (GivesL r w) := by
  have HA := Lib.hid ha; clear ha
  have HB := Lib.hid hb; clear hb
  have HR := Lib.hid ((mrgM l m).trans hr); clear hr
  have HN := Lib.hid hn; clear hn
  have HK := Lib.hid hk; clear hk
  go_enter Try.func25, Try.ntmps25
  go_wp2_with fail
  refine (iSetOfN l n HN.out _ rfl (by omega) A c _ HA.out).mono ?_
  rintro e w1 ⟨A1, c1, rfl, r1, b1⟩
  have hl1 := lenMk l
  have hl2 := lenMk m
  rw [HN.out] at hl1
  rw [HK.out] at hl2
  obtain ⟨n1, HN1⟩ : ∃ n1, Hid ((mk l).length = n1) := ⟨_, rfl⟩
  rw [HN1.out] at hl1 ⊢
  go_wp2_with fail
  refine (iSetOfN m k HK.out _ rfl (by omega) B d _ (HB.out.below b1)).mono ?_
  rintro e w2 ⟨A2, c2, rfl, r2, b2⟩
  obtain ⟨n2, HN2⟩ : ∃ n2, Hid ((mk m).length = n2) := ⟨_, rfl⟩
  rw [HN2.out] at hl2 ⊢
  go_wp2_with fail
  refine (iMerge fM 40 entM keepM (mk l) (mk m) n1 n2 HN1.out HN2.out r HR.out (by omega) (by omega) A1 A2 c1 c2 _ (r1.below b2) r2).mono ?_
  rintro e w3 ⟨A3, c3, rfl, r3, b3⟩
  go_wp2
  go_ret
  exact ⟨A3, c3, rfl, r3, belowThen (belowThen b1 b2) b3⟩

set_option maxHeartbeats 400000 in
theorem iAdd (l : List Int) (x : Int) (n : Nat) (hn : l.length = n) (r : List Int) (hr : uni l [x] = r) (hs : n ≤ 30000) (A : Option Addr) (c : Nat) (w : World) (ha : Rd w A c l) :
    Calls Try.prog 17 #[.slice A n c, .int .i64 x] w (GivesL r w) := by
  have HA := Lib.hid ha; clear ha
  have HR := Lib.hid hr; clear hr
  have HN := Lib.hid hn; clear hn
  have B0 : Below w.heap.size w (w.alloc (.cells #[.int .i64 x] 3)) := (Below.refl _ w).alloc (Nat.le_refl _) _
  go_enter Try.func17, Try.ntmps17
  go_wp2_with fail
  refine (iSetOfN [x] 1 rfl [x] (mkSelf (by simp [Srt])) (by omega) _ 1 _ (Rd.lit w [x] 3 (by simp))).mono ?_
  rintro e w1 ⟨A1, c1, rfl, r1, b1⟩
  have B1 := belowThen B0 b1
  go_wp2_with fail
  refine (iUnion l [x] n 1 HN.out rfl r HR.out hs (by omega) A A1 c c1 _ (HA.out.below B1) r1).mono ?_
  rintro e w3 ⟨A3, c3, rfl, r3, b3⟩
  go_wp2
  go_ret
  exact ⟨A3, c3, rfl, r3, belowThen B1 b3⟩

set_option maxHeartbeats 400000 in
theorem iRemove (l : List Int) (x : Int) (n : Nat) (hn : l.length = n) (r : List Int) (hr : min' l [x] = r) (hs : n ≤ 30000) (A : Option Addr) (c : Nat) (w : World) (ha : Rd w A c l) :
    Calls Try.prog 19 #[.slice A n c, .int .i64 x] w (GivesL r w) := by
  have HA := Lib.hid ha; clear ha
  have HR := Lib.hid hr; clear hr
  have HN := Lib.hid hn; clear hn
  have B0 : Below w.heap.size w (w.alloc (.cells #[.int .i64 x] 3)) := (Below.refl _ w).alloc (Nat.le_refl _) _
  go_enter Try.func19, Try.ntmps19
  go_wp2_with fail
  refine (iSetOfN [x] 1 rfl [x] (mkSelf (by simp [Srt])) (by omega) _ 1 _ (Rd.lit w [x] 3 (by simp))).mono ?_
  rintro e w1 ⟨A1, c1, rfl, r1, b1⟩
  have B1 := belowThen B0 b1
  go_wp2_with fail
  refine (iMinus l [x] n 1 HN.out rfl r HR.out hs (by omega) A A1 c c1 _ (HA.out.below B1) r1).mono ?_
  rintro e w3 ⟨A3, c3, rfl, r3, b3⟩
  go_wp2
  go_ret
  exact ⟨A3, c3, rfl, r3, belowThen B1 b3⟩

theorem subLen {l m r : List Int} {b : Bool} (hr : min' l m = r) (hb : subB l m = b) : ((r.length : Int) == 0) = b := by
  rw [← hb, ← minEmpty, hr, Bool.eq_iff_iff]
  simp
set_option maxHeartbeats 400000 in
theorem iSubset (l m : List Int) (n k : Nat) (hn : l.length = n) (hk : m.length = k) (r : Bool) (hr : subB l m = r) (hs : n ≤ 30000) (hs' : k ≤ 30000) (A B : Option Addr) (c d : Nat) (w : World) (ha : Rd w A c l) (hb : Rd w B d m) :
    Calls Try.prog 27 #[.slice A n c, .slice B k d] w fun e w' => e = .returned (.bool r) ∧ Below w.heap.size w w' := by
  obtain ⟨s, hsm⟩ : ∃ s, min' l m = s := ⟨_, rfl⟩
  have HL := Lib.hid (subLen hsm hr)
  have HS := Lib.hid hsm; clear hsm hr
  have HA := Lib.hid ha; clear ha
  have HB := Lib.hid hb; clear hb
  have HN := Lib.hid hn; clear hn
  have HK := Lib.hid hk; clear hk
  go_enter Try.func27, Try.ntmps27
  go_wp2_with fail
  refine (iMinus l m n k HN.out HK.out s HS.out hs hs' A B c d _ HA.out HB.out).mono ?_
  rintro e w1 ⟨A1, c1, rfl, r1, b1⟩
  obtain ⟨n1, HN1⟩ : ∃ n1, Hid (s.length = n1) := ⟨_, rfl⟩
  rw [HN1.out]
  have HL' : Hid (((n1 : Int) == 0) = r) := Lib.hid (by rw [← HN1.out]; exact HL.out)
  cases r
  · have hz := HL'.out
    have hz' : 0 < n1 := by simp at hz; omega
    go_wp2
    go_ret
    exact ⟨rfl, b1⟩
  · have hz := HL'.out
    obtain rfl : n1 = 0 := by simpa using hz
    go_wp2
    go_ret
    exact ⟨rfl, b1⟩
end Go.Proofs.Ythfllfdgndaddaa
