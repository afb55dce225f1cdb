/-
  The contract of Check: the first error of a unit, in the order of the checks.
-/
import Derived.Test.YtiaendggmamnkaaGreatDoorENc
import Derived.Deep.RegionHeld3
import Derived.Laws.EntriesVeiled
import Derived.Deep.DeepCutAuto
import Derived.Outline
namespace Go.Proofs.YtiaendggmamnkaaGreatDoor
open Go Go.RowKit

theorem belowDr16 {w X : World} (h : Below w.heap.size w X) : Below w.heap.size w X.drew := h.drew
theorem belowAl16 {w X : World} (h : Below w.heap.size w X) (o : Obj) : Below w.heap.size w (X.alloc o) := belowThen h (belowAlloc X o)
theorem iClo16nameCheck (a : PgA) (w : World) : Calls Tryz.prog 45 #[a.val] w fun e w' => e = .returned (.func (.func 93) #[] #[.pointer (some ⟨w.heap.size, 0, none⟩)]) ∧ w' = w.alloc (.cells a.fs 27) := by
  obtain ⟨A1, n1, c1, A2, n2, c2, A3, n3, c3, A4, n4, c4, A5, n5, c5⟩ := a
  simp only [PgA.val, PgA.fs]
  go_enter Tryz.func45, Tryz.ntmps45
  go_wp2
  go_ret
  exact ⟨rfl, rfl⟩
theorem iClo16limitCheck (a : PgA) (w : World) : Calls Tryz.prog 46 #[a.val] w fun e w' => e = .returned (.func (.func 100) #[] #[.pointer (some ⟨w.heap.size, 0, none⟩)]) ∧ w' = w.alloc (.cells a.fs 27) := by
  obtain ⟨A1, n1, c1, A2, n2, c2, A3, n3, c3, A4, n4, c4, A5, n5, c5⟩ := a
  simp only [PgA.val, PgA.fs]
  go_enter Tryz.func46, Tryz.ntmps46
  go_wp2
  go_ret
  exact ⟨rfl, rfl⟩
theorem iClo16initCheck (a : PgA) (w : World) : Calls Tryz.prog 47 #[a.val] w fun e w' => e = .returned (.func (.func 102) #[] #[.pointer (some ⟨w.heap.size, 0, none⟩)]) ∧ w' = w.alloc (.cells a.fs 27) := by
  obtain ⟨A1, n1, c1, A2, n2, c2, A3, n3, c3, A4, n4, c4, A5, n5, c5⟩ := a
  simp only [PgA.val, PgA.fs]
  go_enter Tryz.func47, Tryz.ntmps47
  go_wp2
  go_ret
  exact ⟨rfl, rfl⟩
theorem iClo16procCheck (a : PgA) (w : World) : Calls Tryz.prog 48 #[a.val] w fun e w' => e = .returned (.func (.func 104) #[] #[.pointer (some ⟨w.heap.size, 0, none⟩)]) ∧ w' = w.alloc (.cells a.fs 27) := by
  obtain ⟨A1, n1, c1, A2, n2, c2, A3, n3, c3, A4, n4, c4, A5, n5, c5⟩ := a
  simp only [PgA.val, PgA.fs]
  go_enter Tryz.func48, Tryz.ntmps48
  go_wp2
  go_ret
  exact ⟨rfl, rfl⟩
theorem iClo16threadCheck (a : PgA) (w : World) : Calls Tryz.prog 49 #[a.val] w fun e w' => e = .returned (.func (.func 107) #[] #[.pointer (some ⟨w.heap.size, 0, none⟩)]) ∧ w' = w.alloc (.cells a.fs 27) := by
  obtain ⟨A1, n1, c1, A2, n2, c2, A3, n3, c3, A4, n4, c4, A5, n5, c5⟩ := a
  simp only [PgA.val, PgA.fs]
  go_enter Tryz.func49, Tryz.ntmps49
  go_wp2
  go_ret
  exact ⟨rfl, rfl⟩
/-- What the five checks give, in order; the first that is an error counts. -/
def Un.ck (p : Un) : Nat → Int × Int × Int
  | 0 => ((nmI16 p).1, (nmI16 p).2, -1)
  | 1 => (lmI p, -1, -1)
  | 2 => (inI p, -1, -1)
  | 3 => pcF p p.procs 0
  | _ => (thI16 p, -1, -1)
def fstU (g : Nat → Int × Int × Int) : Nat → Nat → Int × Int × Int
  | 0, _ => (0, -1, -1)
  | d + 1, k => if (g k).1 ≠ 0 then g k else fstU g d (k + 1)
theorem chkFirst16 (p : Un) : unE p = fstU p.ck 5 0 := by
  unfold unE
  simp only [fstU, Un.ck]
structure Clo16 (W : World) (g : Nat) (a : PgA) (b0 b1 b2 b3 b4 : Nat) : Prop where
  arr : Blk W g 78 #[.func (.func 93) #[] #[.pointer (some ⟨b0, 0, none⟩)], .func (.func 100) #[] #[.pointer (some ⟨b1, 0, none⟩)], .func (.func 102) #[] #[.pointer (some ⟨b2, 0, none⟩)], .func (.func 104) #[] #[.pointer (some ⟨b3, 0, none⟩)], .func (.func 107) #[] #[.pointer (some ⟨b4, 0, none⟩)]]
  p0 : UBox W b0 a
  p1 : UBox W b1 a
  p2 : UBox W b2 a
  p3 : UBox W b3 a
  p4 : UBox W b4 a
/-- Six new blocks, where they lie. -/
theorem six16 (W : World) (o1 o2 o3 o4 o5 o6 : Obj) {Z : World} (hZ : Z = ((((((W.alloc o1).alloc o2).alloc o3).alloc o4).alloc o5).alloc o6).drew) :
    (Z.heap[W.heap.size]? = some o1 ∧ Z.heap[W.heap.size + 1]? = some o2 ∧ Z.heap[W.heap.size + 1 + 1]? = some o3 ∧ Z.heap[W.heap.size + 1 + 1 + 1]? = some o4 ∧ Z.heap[W.heap.size + 1 + 1 + 1 + 1]? = some o5 ∧ Z.heap[W.heap.size + 1 + 1 + 1 + 1 + 1]? = some o6) ∧ Below W.heap.size W Z := by
  subst hZ
  have new : ∀ (X : World) (o : Obj) (k : Nat), X.heap.size = k → (X.alloc o).heap[k]? = some o := fun X o k h => h ▸ World.alloc_heap_new X o
  have old : ∀ (X : World) (o o' : Obj) (k : Nat), X.heap[k]? = some o' → (X.alloc o).heap[k]? = some o' := fun X o o' k h => ((belowAlloc X o).block k (Array.getElem?_eq_some_iff.1 h).1).trans h
  refine ⟨⟨old _ _ _ _ (old _ _ _ _ (old _ _ _ _ (old _ _ _ _ (old _ _ _ _ (new _ _ _ rfl))))), old _ _ _ _ (old _ _ _ _ (old _ _ _ _ (old _ _ _ _ (new _ _ _ (by simp))))), old _ _ _ _ (old _ _ _ _ (old _ _ _ _ (new _ _ _ (by simp)))), old _ _ _ _ (old _ _ _ _ (new _ _ _ (by simp))), old _ _ _ _ (new _ _ _ (by simp)), new _ _ _ (by simp)⟩, ?_⟩
  exact belowDr16 (belowAl16 (belowAl16 (belowAl16 (belowAl16 (belowAl16 (belowAl16 (Below.refl _ W) _) _) _) _) _) _)
set_option maxRecDepth 100000 in
set_option maxHeartbeats 8000000 in
theorem iCheckU {a : PgA} {p : Un} {dx d : Nat} (w : World) (hP : UnR w a p dx d) (hW : p.Wf) (hT : RwsT w) : Calls Tryz.prog 16 #[a.val] w fun e w' => e = err6 (unE p) ∧ Below w.heap.size w w' := by
  obtain ⟨R, hR⟩ : ∃ R, unE p = R := ⟨_, rfl⟩
  rw [hR]
  have HR := Lib.hid ((chkFirst16 p).symm.trans hR)
  have HP := Lib.hid hP
  have HW := Lib.hid hW
  have HTN := Lib.hid hT
  have HnameCheck := Lib.hid (fun X => iClo16nameCheck a X)
  have HlimitCheck := Lib.hid (fun X => iClo16limitCheck a X)
  have HinitCheck := Lib.hid (fun X => iClo16initCheck a X)
  have HprocCheck := Lib.hid (fun X => iClo16procCheck a X)
  have HthreadCheck := Lib.hid (fun X => iClo16threadCheck a X)
  obtain ⟨A1, n1, c1, A2, n2, c2, A3, n3, c3, A4, n4, c4, A5, n5, c5⟩ := a
  clear hP hW hT hR
  simp only [PgA.val, PgA.fs] at *
  obtain ⟨W, hWd⟩ : ∃ W, w.alloc (.cells #[.slice A1 n1 c1, .slice A2 n2 c2, .slice A3 n3 c3, .slice A4 n4 c4, .slice A5 n5 c5] 27) = W := ⟨_, rfl⟩
  have hbW : Below w.heap.size w W := by rw [← hWd]; exact belowAlloc w _
  have HB : Hid (Blk W w.heap.size 27 #[.slice A1 n1 c1, .slice A2 n2 c2, .slice A3 n3 c3, .slice A4 n4 c4, .slice A5 n5 c5]) := by rw [← hWd]; exact Lib.hid (Blk.new w _ _)
  have HWd := Lib.hid hWd
  have HKP : Hid (∀ Y, Below W.heap.size W Y → Below W.heap.size W Y ∧ Y.cell? ⟨w.heap.size, 0, none⟩ = some (.slice A1 n1 c1) ∧ Y.cell? ⟨w.heap.size, 1, none⟩ = some (.slice A2 n2 c2) ∧ Y.cell? ⟨w.heap.size, 2, none⟩ = some (.slice A3 n3 c3) ∧ Y.cell? ⟨w.heap.size, 3, none⟩ = some (.slice A4 n4 c4) ∧ Y.cell? ⟨w.heap.size, 4, none⟩ = some (.slice A5 n5 c5)) := Lib.hid fun Y hY => by
    have h := HB.out.below' hY
    exact ⟨hY, h.cell 0, h.cell 1, h.cell 2, h.cell 3, h.cell 4⟩
  have hbd : Below W.heap.size W W.drew := (Below.refl _ W).drew
  clear hWd
  go_enter Tryz.func16, Tryz.ntmps16
  go_wp2_with fail
  rw [HWd.out]
  go_cut [5] from 11 to 21 (fun s5 wx => ∃ g b0 b1 b2 b3 b4, s5 = .pointer (some ⟨g, 0, none⟩) ∧ Hid (Clo16 wx g ⟨A1, n1, c1, A2, n2, c2, A3, n3, c3, A4, n4, c4, A5, n5, c5⟩ b0 b1 b2 b3 b4) ∧ Below W.heap.size W wx)
  case first =>
    go_region_held3 (fun w' => Below W.heap.size W w' ∧ w'.cell? ⟨w.heap.size, 0, none⟩ = some (.slice A1 n1 c1) ∧ w'.cell? ⟨w.heap.size, 1, none⟩ = some (.slice A2 n2 c2) ∧ w'.cell? ⟨w.heap.size, 2, none⟩ = some (.slice A3 n3 c3) ∧ w'.cell? ⟨w.heap.size, 3, none⟩ = some (.slice A4 n4 c4) ∧ w'.cell? ⟨w.heap.size, 4, none⟩ = some (.slice A5 n5 c5))
      (first
        | with_reducible assumption
        | with_reducible exact HKP.out _ hbd
        | with_reducible exact HKP.out _ (belowDr16 (belowAl16 (Below.refl _ W) _))
        | with_reducible exact HKP.out _ (belowDr16 (belowAl16 (belowAl16 (Below.refl _ W) _) _))
        | with_reducible exact HKP.out _ (belowDr16 (belowAl16 (belowAl16 (belowAl16 (Below.refl _ W) _) _) _))
        | with_reducible exact HKP.out _ (belowDr16 (belowAl16 (belowAl16 (belowAl16 (belowAl16 (Below.refl _ W) _) _) _) _))
        | with_reducible exact HKP.out _ (belowDr16 (belowAl16 (belowAl16 (belowAl16 (belowAl16 (belowAl16 (Below.refl _ W) _) _) _) _) _))
        | with_reducible exact HKP.out _ (belowDr16 (belowAl16 (belowAl16 (belowAl16 (belowAl16 (belowAl16 (belowAl16 (Below.refl _ W) _) _) _) _) _) _)))
      (first
        | (go_at_call 45; refine (HnameCheck.out _).mono ?_; rintro e w1 ⟨rfl, rfl⟩)
        | (go_at_call 46; refine (HlimitCheck.out _).mono ?_; rintro e w2 ⟨rfl, rfl⟩)
        | (go_at_call 47; refine (HinitCheck.out _).mono ?_; rintro e w3 ⟨rfl, rfl⟩)
        | (go_at_call 48; refine (HprocCheck.out _).mono ?_; rintro e w4 ⟨rfl, rfl⟩)
        | (go_at_call 49; refine (HthreadCheck.out _).mono ?_; rintro e w5 ⟨rfl, rfl⟩))
    all_goals (
      go_wp2_with fail
      go_meet
      obtain ⟨⟨h0, h1, h2, h3, h4, h5⟩, hsb⟩ := six16 W _ _ _ _ _ _ rfl
      first
        | exact ⟨_, _, _, _, _, _, rfl, Lib.hid ⟨h0, h1, h2, h3, h4, h5⟩, hsb⟩
        | exact ⟨_, _, _, _, _, _, rfl, Lib.hid ⟨h1, h0, h2, h3, h4, h5⟩, hsb⟩
        | exact ⟨_, _, _, _, _, _, rfl, Lib.hid ⟨h2, h0, h1, h3, h4, h5⟩, hsb⟩
        | exact ⟨_, _, _, _, _, _, rfl, Lib.hid ⟨h3, h0, h1, h2, h4, h5⟩, hsb⟩
        | exact ⟨_, _, _, _, _, _, rfl, Lib.hid ⟨h4, h0, h1, h2, h3, h5⟩, hsb⟩
        | exact ⟨_, _, _, _, _, _, rfl, Lib.hid ⟨h5, h0, h1, h2, h3, h4⟩, hsb⟩)
  case rest =>
    obtain ⟨g, b0, b1, b2, b3, b4, rfl, HC, hbc⟩ := hcut
    have hbX := belowThen hbW hbc
    have HX0 : Hid (∀ X, Below wc.heap.size wc X → Calls Tryz.prog 93 #[.pointer (some ⟨b0, 0, none⟩)] X fun e X' => e = err6 (p.ck 0) ∧ Below X.heap.size X X') := Lib.hid fun X hX' => by
      have hX := belowThen hbX hX'
      have hC := HC.out.p0.below hX'
      exact (iNameChk16 (b := b0) X (HP.out.below hX) hC HW.out).mono fun e X' h => ⟨h.1, h.2⟩
    have HX1 : Hid (∀ X, Below wc.heap.size wc X → Calls Tryz.prog 100 #[.pointer (some ⟨b1, 0, none⟩)] X fun e X' => e = err6 (p.ck 1) ∧ Below X.heap.size X X') := Lib.hid fun X hX' => by
      have hX := belowThen hbX hX'
      have hC := HC.out.p1.below hX'
      exact (iLimits16 (b := b1) X (HP.out.below hX) hC).mono fun e X' h => ⟨h.1, h.2 ▸ Below.refl _ _⟩
    have HX2 : Hid (∀ X, Below wc.heap.size wc X → Calls Tryz.prog 102 #[.pointer (some ⟨b2, 0, none⟩)] X fun e X' => e = err6 (p.ck 2) ∧ Below X.heap.size X X') := Lib.hid fun X hX' => by
      have hX := belowThen hbX hX'
      have hC := HC.out.p2.below hX'
      exact (iInits16 (b := b2) X (HP.out.below hX) hC).mono fun e X' h => ⟨h.1, h.2⟩
    have HX3 : Hid (∀ X, Below wc.heap.size wc X → Calls Tryz.prog 104 #[.pointer (some ⟨b3, 0, none⟩)] X fun e X' => e = err6 (p.ck 3) ∧ Below X.heap.size X X') := Lib.hid fun X hX' => by
      have hX := belowThen hbX hX'
      have hC := HC.out.p3.below hX'
      exact (iProcs p _ dx d b3 X (HP.out.below hX) hC HW.out (HTN.out.below hX)).mono fun e X' h => ⟨h.1, h.2⟩
    have HX4 : Hid (∀ X, Below wc.heap.size wc X → Calls Tryz.prog 107 #[.pointer (some ⟨b4, 0, none⟩)] X fun e X' => e = err6 (p.ck 4) ∧ Below X.heap.size X X') := Lib.hid fun X hX' => by
      have hX := belowThen hbX hX'
      have hC := HC.out.p4.below hX'
      exact (iThreads16 (b := b4) X (HP.out.below hX) hC).mono fun e X' h => ⟨h.1, h.2⟩
    have k0 := HC.out.arr.cell 0
    have k1 := HC.out.arr.cell 1
    have k2 := HC.out.arr.cell 2
    have k3 := HC.out.arr.cell 3
    have k4 := HC.out.arr.cell 4
    simp only [List.getElem?_toArray, List.getElem?_cons_zero, List.getElem?_cons_succ] at k0 k1 k2 k3 k4
    have q0 : ∀ X, (Instr.index 78 (.agg #[.func (.func 93) #[] #[.pointer (some ⟨b0, 0, none⟩)], .func (.func 100) #[] #[.pointer (some ⟨b1, 0, none⟩)], .func (.func 102) #[] #[.pointer (some ⟨b2, 0, none⟩)], .func (.func 104) #[] #[.pointer (some ⟨b3, 0, none⟩)], .func (.func 107) #[] #[.pointer (some ⟨b4, 0, none⟩)]]) (.int .i64 0)).run Tryz.prog X = .ok (.func (.func 93) #[] #[.pointer (some ⟨b0, 0, none⟩)]) X := fun _ => by kernel_rfl
    have q1 : ∀ X, (Instr.index 78 (.agg #[.func (.func 93) #[] #[.pointer (some ⟨b0, 0, none⟩)], .func (.func 100) #[] #[.pointer (some ⟨b1, 0, none⟩)], .func (.func 102) #[] #[.pointer (some ⟨b2, 0, none⟩)], .func (.func 104) #[] #[.pointer (some ⟨b3, 0, none⟩)], .func (.func 107) #[] #[.pointer (some ⟨b4, 0, none⟩)]]) (.int .i64 1)).run Tryz.prog X = .ok (.func (.func 100) #[] #[.pointer (some ⟨b1, 0, none⟩)]) X := fun _ => by kernel_rfl
    have q2 : ∀ X, (Instr.index 78 (.agg #[.func (.func 93) #[] #[.pointer (some ⟨b0, 0, none⟩)], .func (.func 100) #[] #[.pointer (some ⟨b1, 0, none⟩)], .func (.func 102) #[] #[.pointer (some ⟨b2, 0, none⟩)], .func (.func 104) #[] #[.pointer (some ⟨b3, 0, none⟩)], .func (.func 107) #[] #[.pointer (some ⟨b4, 0, none⟩)]]) (.int .i64 2)).run Tryz.prog X = .ok (.func (.func 102) #[] #[.pointer (some ⟨b2, 0, none⟩)]) X := fun _ => by kernel_rfl
    have q3 : ∀ X, (Instr.index 78 (.agg #[.func (.func 93) #[] #[.pointer (some ⟨b0, 0, none⟩)], .func (.func 100) #[] #[.pointer (some ⟨b1, 0, none⟩)], .func (.func 102) #[] #[.pointer (some ⟨b2, 0, none⟩)], .func (.func 104) #[] #[.pointer (some ⟨b3, 0, none⟩)], .func (.func 107) #[] #[.pointer (some ⟨b4, 0, none⟩)]]) (.int .i64 3)).run Tryz.prog X = .ok (.func (.func 104) #[] #[.pointer (some ⟨b3, 0, none⟩)]) X := fun _ => by kernel_rfl
    have q4 : ∀ X, (Instr.index 78 (.agg #[.func (.func 93) #[] #[.pointer (some ⟨b0, 0, none⟩)], .func (.func 100) #[] #[.pointer (some ⟨b1, 0, none⟩)], .func (.func 102) #[] #[.pointer (some ⟨b2, 0, none⟩)], .func (.func 104) #[] #[.pointer (some ⟨b3, 0, none⟩)], .func (.func 107) #[] #[.pointer (some ⟨b4, 0, none⟩)]]) (.int .i64 4)).run Tryz.prog X = .ok (.func (.func 107) #[] #[.pointer (some ⟨b4, 0, none⟩)]) X := fun _ => by kernel_rfl
    go_wp2
    go_loopw [23] (fun i wr => ∃ (k : Nat) (x : Int), k ≤ 5 ∧ x = k ∧ i = .int .i64 x ∧ Below wc.heap.size wc wr ∧ Hid (fstU p.ck (5 - k) k = R)) (fun i _ => 5 - (intOf i).toNat)
    case atStart => exact ⟨0, 0, Nat.zero_le _, rfl, rfl, Below.refl _ _, HR⟩
    case round =>
      obtain ⟨k, x, hk, hx, rfl, hb, HE⟩ := hrel
      have hbw := belowThen hbX hb
      have hcase : k = 0 ∨ k = 1 ∨ k = 2 ∨ k = 3 ∨ k = 4 ∨ k = 5 := by omega
      rcases hcase with rfl | rfl | rfl | rfl | rfl | rfl
      · obtain rfl : x = 0 := by omega
        obtain ⟨x, y, z, hr⟩ : ∃ x y z, p.ck 0 = (x, y, z) := ⟨_, _, _, rfl⟩
        have HH := HX0.out wr hb
        rw [hr] at HH
        simp only [err6] at HH
        have HH := Lib.hid HH
        have hst : fstU p.ck (5 - 0) 0 = if x ≠ 0 then (x, y, z) else fstU p.ck (5 - 1) 1 := by
          show (if (p.ck 0).1 ≠ 0 then p.ck 0 else fstU p.ck (5 - 1) 1) = _
          rw [hr]
        by_cases hx0 : x = 0
        · have HN := Lib.hid (show fstU p.ck (5 - 1) 1 = R by rw [← HE.out, hst, if_neg (by simpa using hx0)])
          subst hx0
          clear hst hr hx hk
          go_wp2_with (go_at_call 93; refine HH.out.mono ?_; rintro e w' ⟨rfl, b1⟩)
          go_roundw
          case rel => exact ⟨1, 1, by omega, rfl, rfl, belowThen hb b1, HN⟩
          case measure => simp [intOf]
        · have HN := Lib.hid (show (x, y, z) = R by rw [← HE.out, hst, if_pos hx0])
          have hxt : (x != 0) = true := by simpa using hx0
          clear hst hr hx hk hx0
          go_wp2_with (go_at_call 93; refine HH.out.mono ?_; rintro e w' ⟨rfl, b1⟩)
          go_ret3
          exact ⟨by rw [← HN.out]; rfl, belowThen hbw b1⟩
      · obtain rfl : x = 1 := by omega
        obtain ⟨x, y, z, hr⟩ : ∃ x y z, p.ck 1 = (x, y, z) := ⟨_, _, _, rfl⟩
        have HH := HX1.out wr hb
        rw [hr] at HH
        simp only [err6] at HH
        have HH := Lib.hid HH
        have hst : fstU p.ck (5 - 1) 1 = if x ≠ 0 then (x, y, z) else fstU p.ck (5 - 2) 2 := by
          show (if (p.ck 1).1 ≠ 0 then p.ck 1 else fstU p.ck (5 - 2) 2) = _
          rw [hr]
        by_cases hx0 : x = 0
        · have HN := Lib.hid (show fstU p.ck (5 - 2) 2 = R by rw [← HE.out, hst, if_neg (by simpa using hx0)])
          subst hx0
          clear hst hr hx hk
          go_wp2_with (go_at_call 100; refine HH.out.mono ?_; rintro e w' ⟨rfl, b1⟩)
          go_roundw
          case rel => exact ⟨2, 2, by omega, rfl, rfl, belowThen hb b1, HN⟩
          case measure => simp [intOf]
        · have HN := Lib.hid (show (x, y, z) = R by rw [← HE.out, hst, if_pos hx0])
          have hxt : (x != 0) = true := by simpa using hx0
          clear hst hr hx hk hx0
          go_wp2_with (go_at_call 100; refine HH.out.mono ?_; rintro e w' ⟨rfl, b1⟩)
          go_ret3
          exact ⟨by rw [← HN.out]; rfl, belowThen hbw b1⟩
      · obtain rfl : x = 2 := by omega
        obtain ⟨x, y, z, hr⟩ : ∃ x y z, p.ck 2 = (x, y, z) := ⟨_, _, _, rfl⟩
        have HH := HX2.out wr hb
        rw [hr] at HH
        simp only [err6] at HH
        have HH := Lib.hid HH
        have hst : fstU p.ck (5 - 2) 2 = if x ≠ 0 then (x, y, z) else fstU p.ck (5 - 3) 3 := by
          show (if (p.ck 2).1 ≠ 0 then p.ck 2 else fstU p.ck (5 - 3) 3) = _
          rw [hr]
        by_cases hx0 : x = 0
        · have HN := Lib.hid (show fstU p.ck (5 - 3) 3 = R by rw [← HE.out, hst, if_neg (by simpa using hx0)])
          subst hx0
          clear hst hr hx hk
          go_wp2_with (go_at_call 102; refine HH.out.mono ?_; rintro e w' ⟨rfl, b1⟩)
          go_roundw
          case rel => exact ⟨3, 3, by omega, rfl, rfl, belowThen hb b1, HN⟩
          case measure => simp [intOf]
        · have HN := Lib.hid (show (x, y, z) = R by rw [← HE.out, hst, if_pos hx0])
          have hxt : (x != 0) = true := by simpa using hx0
          clear hst hr hx hk hx0
          go_wp2_with (go_at_call 102; refine HH.out.mono ?_; rintro e w' ⟨rfl, b1⟩)
          go_ret3
          exact ⟨by rw [← HN.out]; rfl, belowThen hbw b1⟩
      · obtain rfl : x = 3 := by omega
        obtain ⟨x, y, z, hr⟩ : ∃ x y z, p.ck 3 = (x, y, z) := ⟨_, _, _, rfl⟩
        have HH := HX3.out wr hb
        rw [hr] at HH
        simp only [err6] at HH
        have HH := Lib.hid HH
        have hst : fstU p.ck (5 - 3) 3 = if x ≠ 0 then (x, y, z) else fstU p.ck (5 - 4) 4 := by
          show (if (p.ck 3).1 ≠ 0 then p.ck 3 else fstU p.ck (5 - 4) 4) = _
          rw [hr]
        by_cases hx0 : x = 0
        · have HN := Lib.hid (show fstU p.ck (5 - 4) 4 = R by rw [← HE.out, hst, if_neg (by simpa using hx0)])
          subst hx0
          clear hst hr hx hk
          go_wp2_with (go_at_call 104; refine HH.out.mono ?_; rintro e w' ⟨rfl, b1⟩)
          go_roundw
          case rel => exact ⟨4, 4, by omega, rfl, rfl, belowThen hb b1, HN⟩
          case measure => simp [intOf]
        · have HN := Lib.hid (show (x, y, z) = R by rw [← HE.out, hst, if_pos hx0])
          have hxt : (x != 0) = true := by simpa using hx0
          clear hst hr hx hk hx0
          go_wp2_with (go_at_call 104; refine HH.out.mono ?_; rintro e w' ⟨rfl, b1⟩)
          go_ret3
          exact ⟨by rw [← HN.out]; rfl, belowThen hbw b1⟩
      · obtain rfl : x = 4 := by omega
        obtain ⟨x, y, z, hr⟩ : ∃ x y z, p.ck 4 = (x, y, z) := ⟨_, _, _, rfl⟩
        have HH := HX4.out wr hb
        rw [hr] at HH
        simp only [err6] at HH
        have HH := Lib.hid HH
        have hst : fstU p.ck (5 - 4) 4 = if x ≠ 0 then (x, y, z) else fstU p.ck (5 - 5) 5 := by
          show (if (p.ck 4).1 ≠ 0 then p.ck 4 else fstU p.ck (5 - 5) 5) = _
          rw [hr]
        by_cases hx0 : x = 0
        · have HN := Lib.hid (show fstU p.ck (5 - 5) 5 = R by rw [← HE.out, hst, if_neg (by simpa using hx0)])
          subst hx0
          clear hst hr hx hk
          go_wp2_with (go_at_call 107; refine HH.out.mono ?_; rintro e w' ⟨rfl, b1⟩)
          go_roundw
          case rel => exact ⟨5, 5, by omega, rfl, rfl, belowThen hb b1, HN⟩
          case measure => simp [intOf]
        · have HN := Lib.hid (show (x, y, z) = R by rw [← HE.out, hst, if_pos hx0])
          have hxt : (x != 0) = true := by simpa using hx0
          clear hst hr hx hk hx0
          go_wp2_with (go_at_call 107; refine HH.out.mono ?_; rintro e w' ⟨rfl, b1⟩)
          go_ret3
          exact ⟨by rw [← HN.out]; rfl, belowThen hbw b1⟩
      · obtain rfl : x = 5 := by omega
        have HN := Lib.hid (show (0, -1, -1) = R from HE.out)
        clear hx hk
        go_wp2
        go_ret3
        exact ⟨by rw [← HN.out]; rfl, hbw⟩
end Go.Proofs.YtiaendggmamnkaaGreatDoor
