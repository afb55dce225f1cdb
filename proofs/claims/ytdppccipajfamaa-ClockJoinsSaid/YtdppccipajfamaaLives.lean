/-
  The contract of the statements' own examples (lives): they hold.
-/
import Derived.Test.YtdppccipajfamaaRStamps
import Derived.Deep.RegionHeld3
namespace Go.Proofs.Ytdppccipajfamaa
open Go.RowKit

theorem Rc.lit (w : World) (l : Ck) (T : TypeId) (h : l.length ≤ 65536) : Rc (w.alloc (.cells (ct l).toArray T)) (some ⟨w.heap.size, 0, none⟩) l.length l :=
  ⟨Nat.le_refl _, by unfold maxLen; omega, fun _ => ⟨w.heap.size, 0, rfl, by simp, fun j hj => by
    have hh := heap_alloc_new w (.cells (ct l).toArray T)
    have := ctAt l j hj
    exact ⟨by rw [cell_of_row _ _ _ _ T (0, 0) hh, Nat.zero_add]; simpa using this.1, by rw [cell_of_row _ _ _ _ T (0, 0) hh, Nat.zero_add]; simpa using this.2⟩⟩⟩
theorem Rc.lit2 (w : World) (x1 n1 x2 n2 : Int) (T : TypeId) : Rc (w.alloc (.cells #[.int .i64 x1, .int .i64 n1, .int .i64 x2, .int .i64 n2] T)) (some ⟨w.heap.size, 0, none⟩) 2 [(x1, n1), (x2, n2)] := Rc.lit w [(x1, n1), (x2, n2)] T (by simp)
theorem Rc.lit3 (w : World) (x1 n1 x2 n2 x3 n3 : Int) (T : TypeId) : Rc (w.alloc (.cells #[.int .i64 x1, .int .i64 n1, .int .i64 x2, .int .i64 n2, .int .i64 x3, .int .i64 n3] T)) (some ⟨w.heap.size, 0, none⟩) 3 [(x1, n1), (x2, n2), (x3, n3)] := Rc.lit w [(x1, n1), (x2, n2), (x3, n3)] T (by simp)
theorem Rd.lit3 (w : World) (x y z : Int) : Rd (w.alloc (.cells #[.int .i64 x, .int .i64 y, .int .i64 z] 3)) (some ⟨w.heap.size, 0, none⟩) 3 [x, y, z] := Rd.lit w [x, y, z] 3 (by simp)

theorem addZero (a : Addr) : a.add 0 = a := rfl
abbrev exA : List Int := [1, 2, 1]
abbrev exF : List Int := [-1, 0, 1]
theorem exCl0 : cl exA exF 0 = [(1, 1)] := by decide +kernel
theorem exCl1 : cl exA exF 1 = [(1, 1), (2, 1)] := by decide +kernel
theorem exCl2 : cl exA exF 2 = [(1, 2), (2, 1)] := by decide +kernel
theorem exStamps (w : World) (g1 g2 : Nat) (h1 : g1 = w.heap.size) (h2 : g2 = w.heap.size + 1) : Calls Try.prog 25 #[.slice (some ⟨g1, 0, none⟩) 3 3, .slice (some ⟨g2, 0, none⟩) 3 3]
    ((w.alloc (.cells #[.int .i64 1, .int .i64 2, .int .i64 1] 3)).alloc (.cells #[.int .i64 (-1), .int .i64 0, .int .i64 1] 3)) fun e w' => ∃ A c, e = .returned (.tuple #[.slice A 3 c, .int .i64 0]) ∧ RdS w' A c (cl exA exF) 3 ∧ Below w.heap.size w w' := by
  subst h1; subst h2
  have r2 := Rd.lit3 (w.alloc (.cells #[.int .i64 1, .int .i64 2, .int .i64 1] 3)) (-1) 0 1
  simp only [show ∀ (w : World) (o : Obj), (w.alloc o).heap.size = w.heap.size + 1 from fun w o => by simp] at r2
  refine (iStampsOk exA exF 3 rfl rfl (by decide +kernel) (by decide +kernel) _ _ 3 3 _ ((Rd.lit3 w 1 2 1).below ((Below.refl _ _).alloc (Nat.le_refl _) _)) r2).mono ?_
  rintro e w' ⟨A, c, rfl, h, b⟩
  exact ⟨A, c, rfl, h, belowThen (belowAlloc w _) (belowThen (belowAlloc _ _) b)⟩

abbrev exCa : Ck := [(1, 2), (3, 1)]
abbrev exCb : Ck := [(1, 1), (2, 5)]
theorem exJoin (A B : Option Addr) (c d : Nat) (w : World) (ha : Rc w A c exCa) (hb : Rc w B d exCb) : Calls Try.prog 17 #[.slice A 2 c, .slice B 2 d] w fun e w' => ∃ A3 c3, e = .returned (.slice A3 3 c3) ∧ Rc w' A3 c3 [(1, 2), (2, 5), (3, 1)] ∧ Below w.heap.size w w' := by
  refine (iJoin exCa exCb 2 2 rfl rfl [(1, 2), (2, 5), (3, 1)] (by decide +kernel) (by omega) (by omega) A B c d w ha hb).mono ?_
  rintro e w' ⟨v, rfl, o, b⟩
  obtain ⟨A3, c3, rfl, r, _⟩ := o.rd
  exact ⟨A3, c3, rfl, r, b⟩
theorem exMeet (A B : Option Addr) (c d : Nat) (w : World) (ha : Rc w A c exCa) (hb : Rc w B d exCb) : Calls Try.prog 19 #[.slice A 2 c, .slice B 2 d] w fun e w' => ∃ A3 c3, e = .returned (.slice A3 1 c3) ∧ Rc w' A3 c3 [(1, 1)] ∧ Below w.heap.size w w' := by
  refine (iMeet exCa exCb 2 2 rfl rfl [(1, 1)] (by decide +kernel) (by omega) (by omega) A B c d w ha hb).mono ?_
  rintro e w' ⟨v, rfl, o, b⟩
  obtain ⟨A3, c3, rfl, r, _⟩ := o.rd
  exact ⟨A3, c3, rfl, r, b⟩
theorem exAdv (w : World) : Calls Try.prog 15 #[.slice none 0 0, .int .i64 (-1)] w fun e w' => ∃ A3 c3, e = .returned (.slice A3 1 c3) ∧ Rc w' A3 c3 [(-1, 1)] ∧ Below w.heap.size w w' := by
  refine (iAdvance [] (-1) 0 rfl [(-1, 1)] (by decide +kernel) (by omega) none 0 w Rc.nil).mono ?_
  rintro e w' ⟨v, rfl, o, b⟩
  obtain ⟨A3, c3, rfl, r, _⟩ := o.rd
  exact ⟨A3, c3, rfl, r, b⟩
theorem exConc (A B : Option Addr) (c d : Nat) (w : World) (ha : Rc w A c exCa) (hb : Rc w B d exCb) : Calls Try.prog 23 #[.slice A 2 c, .slice B 2 d] w fun e w' => e = .returned (.bool true) ∧ Below w.heap.size w w' :=
  iConcurrent exCa exCb 2 2 rfl rfl true (by decide +kernel) (by omega) (by omega) A B c d w ha hb
theorem exLe (A B : Option Addr) (c d : Nat) (w : World) (ha : Rc w A c [(1, 1)]) (hb : Rc w B d [(1, 1), (2, 1)]) : Calls Try.prog 21 #[.slice A 1 c, .slice B 2 d] w fun e w' => e = .returned (.bool true) ∧ Below w.heap.size w w' :=
  iLessEq [(1, 1)] [(1, 1), (2, 1)] 1 2 rfl rfl true (by decide +kernel) (by omega) (by omega) A B c d w ha hb
theorem exValid (A : Option Addr) (c : Nat) (w : World) (ha : Rc w A c exCa) : Calls Try.prog 12 #[.slice A 2 c] w fun e w' => e = .returned (.bool true) ∧ Below w.heap.size w w' :=
  iValid exCa 2 rfl true (by decide +kernel) A c w ha
theorem exGet (A : Option Addr) (c : Nat) (w : World) (ha : Rc w A c exCb) : Calls Try.prog 10 #[.slice A 2 c, .int .i64 2] w fun e w' => e = .returned (.int .i64 5) ∧ Below w.heap.size w w' :=
  iGet exCb 2 2 rfl 5 (by decide +kernel) A c w ha
theorem sameT (l : Ck) (n m : Nat) (hn : l.length = n) (hm : l.length = m) (A B : Option Addr) (c d : Nat) (w : World) (ha : Rc w A c l) (hb : Rc w B d l) : Calls Try.prog 14 #[.slice A n c, .slice B m d] w fun e w' => e = .returned (.bool true) ∧ Below w.heap.size w w' :=
  (rSame l l n m hn hm true (eqC_yes rfl) A B c d w ha hb).mono fun e w' ⟨h1, q, h2⟩ => ⟨h1, by rw [h2]; exact belowN w q⟩

set_option maxHeartbeats 8000000 in
theorem livesOk (w : World) : Calls Try.prog 9 #[] w fun e w' => e = .returned (.bool true) ∧ Below w.heap.size w w' := by
  go_enter Try.func9, Try.ntmps9
  go_wp2_with fail
  with_reducible refine (exStamps ((w.alloc (.cells #[.int .i64 1, .int .i64 2, .int .i64 3, .int .i64 1] 27)).alloc (.cells #[.int .i64 1, .int .i64 1, .int .i64 2, .int .i64 5] 27)) _ _ (by simp) (by simp)).mono ?_
  rintro e w1 ⟨A, c, rfl, rs, b1⟩
  have hla := rs.le
  have hca := rs.max
  unfold maxLen at hca
  have HA := Lib.hid (((Rc.lit2 w 1 2 3 1 27).alloc (.cells #[.int .i64 1, .int .i64 1, .int .i64 2, .int .i64 5] 27)).below b1)
  have r2 := Rc.lit2 (w.alloc (.cells #[.int .i64 1, .int .i64 2, .int .i64 3, .int .i64 1] 27)) 1 1 2 5 27
  rw [show (w.alloc (.cells #[.int .i64 1, .int .i64 2, .int .i64 3, .int .i64 1] 27)).heap.size = w.heap.size + 1 by simp] at r2
  have HB := Lib.hid (r2.below b1); clear r2
  have B1 := Lib.hid (show Below w.heap.size w w1 from belowThen (belowAlloc w _) (belowThen (belowAlloc _ _) b1)); clear b1
  obtain ⟨⟨p, off, spot⟩, A0, c0, rfl, had, k0, r0⟩ := rs.one (k := 0) (by omega)
  have hspot : spot = none := by simpa [Addr.add] using World.cell?_spot k0
  subst hspot
  obtain ⟨ad', A1, c1, e1, _, k1, r1⟩ := rs.one (k := 1) (by omega)
  injection e1 with e1
  subst e1
  obtain ⟨ad', A2, c2, e1, _, k2, r2⟩ := rs.one (k := 2) (by omega)
  injection e1 with e1
  subst e1
  rw [exCl0] at k0 r0
  rw [exCl1] at k1 r1
  rw [exCl2] at k2 r2
  rw [addZero] at k0
  rw [Addr.add_lit] at k1 k2
  simp only [List.length_cons, List.length_nil, Nat.zero_add, Nat.reduceAdd] at k0 k1 k2
  have R0 := Lib.hid r0; clear r0
  have R1 := Lib.hid r1; clear r1
  have R2 := Lib.hid r2; clear r2
  clear rs
  go_wp2_with fail
  with_reducible refine (sameT [(1, 2), (2, 1)] 2 2 rfl rfl A2 _ c2 2 _ (R2.out.alloc _) (Rc.lit2 w1 1 2 2 1 _)).mono ?_
  rintro e w2 ⟨rfl, b2⟩
  have B2 := Lib.hid (show Below w1.heap.size w1 w2 from belowThen (belowAlloc w1 _) b2); clear b2
  have HA2 := Lib.hid (HA.out.below B2.out)
  have HB2 := Lib.hid (HB.out.below B2.out)
  have R02 := Lib.hid (R0.out.below B2.out)
  have R12 := Lib.hid (R1.out.below B2.out)
  have hd2 : p < w2.heap.size := Nat.lt_of_lt_of_le had B2.out.size
  have j0 := (B2.out.cell had).trans k0
  have j1 := (B2.out.cell had).trans k1
  clear k0 k1 k2 HA HB R0 R1 R2
  have HK := Lib.hid (show ∀ w', Below w2.heap.size w2 w' → w'.cell? ⟨p, off, none⟩ = some (.slice A0 1 c0) ∧ w'.cell? ⟨p, off + 1, none⟩ = some (.slice A1 2 c1) ∧ Below w2.heap.size w2 w' from fun w' b => ⟨(b.cell hd2).trans j0, (b.cell hd2).trans j1, b⟩)
  clear j0 j1 hd2 had hla hca
  go_wp2_with fail
  go_region_held3 (fun w' => w'.cell? ⟨p, off, none⟩ = some (.slice A0 1 c0) ∧ w'.cell? ⟨p, off + 1, none⟩ = some (.slice A1 2 c1) ∧ Below w2.heap.size w2 w')
    (first
      | assumption
      | exact HK.out _ (Below.refl _ w2).drew
      | exact HK.out _ (belowThen (‹_ ∧ _ ∧ Below w2.heap.size w2 _›).2.2 bk)
      | exact HK.out _ ((Below.refl _ w2).alloc (Nat.le_refl _) _).drew
      | exact HK.out _ ((‹_ ∧ _ ∧ Below w2.heap.size w2 _›).2.2.alloc (‹_ ∧ _ ∧ Below w2.heap.size w2 _›).2.2.size _))
    (first
      | (go_at_call 17; (with_reducible refine (exJoin _ _ _ _ _ (HA2.out.below (‹_ ∧ _ ∧ Below w2.heap.size w2 _›).2.2) (HB2.out.below (‹_ ∧ _ ∧ Below w2.heap.size w2 _›).2.2)).mono ?_); rintro e w3 ⟨A3, c3, rfl, r3, bk⟩; have R3 := Lib.hid r3; clear r3)
      | (go_at_call 14; (with_reducible refine (sameT [(1, 2), (2, 5), (3, 1)] 3 3 rfl rfl A3 _ c3 3 _ (R3.out.alloc _) (Rc.lit3 w3 1 2 2 5 3 1 _)).mono ?_); rintro e w4 ⟨rfl, bk⟩)
      | (go_at_call 14; (with_reducible refine (sameT [(1, 2), (2, 5), (3, 1)] 3 3 rfl rfl A3 _ c3 3 _ R3.out ((Rc.drew (Rc.lit3 w2 1 2 2 5 3 1 _)).below bk)).mono ?_); rintro e w4 ⟨rfl, bk⟩)
      | (go_at_call 19; (with_reducible refine (exMeet _ _ _ _ _ (HA2.out.below (‹_ ∧ _ ∧ Below w2.heap.size w2 _›).2.2) (HB2.out.below (‹_ ∧ _ ∧ Below w2.heap.size w2 _›).2.2)).mono ?_); rintro e w5 ⟨A5, c5, rfl, r5, bk⟩; have R5 := Lib.hid r5; clear r5)
      | (go_at_call 14; (with_reducible refine (sameT [(1, 1)] 1 1 rfl rfl A5 _ c5 1 _ (R5.out.alloc _) (cellTick w5 1 1 _)).mono ?_); rintro e w6 ⟨rfl, bk⟩)
      | (go_at_call 14; (with_reducible refine (sameT [(1, 1)] 1 1 rfl rfl A5 _ c5 1 _ R5.out ((cellTick w4 1 1 _).below bk)).mono ?_); rintro e w6 ⟨rfl, bk⟩)
      | (go_at_call 23; (with_reducible refine (exConc _ _ _ _ _ (HA2.out.below (‹_ ∧ _ ∧ Below w2.heap.size w2 _›).2.2) (HB2.out.below (‹_ ∧ _ ∧ Below w2.heap.size w2 _›).2.2)).mono ?_); rintro e w7 ⟨rfl, bk⟩)
      | (go_at_call 21; (with_reducible refine (exLe _ _ _ _ _ (R02.out.below (‹_ ∧ _ ∧ Below w2.heap.size w2 _›).2.2) (R12.out.below (‹_ ∧ _ ∧ Below w2.heap.size w2 _›).2.2)).mono ?_); rintro e w8 ⟨rfl, bk⟩)
      | (go_at_call 12; (with_reducible refine (exValid _ _ _ (HA2.out.below (‹_ ∧ _ ∧ Below w2.heap.size w2 _›).2.2)).mono ?_); rintro e w9 ⟨rfl, bk⟩)
      | (go_at_call 10; (with_reducible refine (exGet _ _ _ (HB2.out.below (‹_ ∧ _ ∧ Below w2.heap.size w2 _›).2.2)).mono ?_); rintro e w10 ⟨rfl, bk⟩)
      | (go_at_call 15; (with_reducible refine (exAdv _).mono ?_); rintro e w11 ⟨A11, c11, rfl, r11, bk⟩; have R11 := Lib.hid r11; clear r11)
      | (go_at_call 14; (with_reducible refine (sameT [(-1, 1)] 1 1 rfl rfl A11 _ c11 1 _ (R11.out.alloc _) (cellTick w11 (-1) 1 _)).mono ?_); rintro e w12 ⟨rfl, bk⟩)
      | (go_at_call 14; (with_reducible refine (sameT [(-1, 1)] 1 1 rfl rfl A11 _ c11 1 _ R11.out ((cellTick w10 (-1) 1 _).below bk)).mono ?_); rintro e w12 ⟨rfl, bk⟩))
  all_goals
    go_wp2
    go_ret
    exact ⟨rfl, belowThen B1.out (belowThen B2.out (‹_ ∧ _ ∧ Below w2.heap.size w2 _›).2.2)⟩
end Go.Proofs.Ytdppccipajfamaa
