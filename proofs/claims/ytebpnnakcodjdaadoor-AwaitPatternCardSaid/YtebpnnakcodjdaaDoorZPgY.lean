/-
  The contract of Check: the first error of a program, in the order of the checks.
-/
import Derived.Test.YtebpnnakcodjdaaDoorZPgX
import Derived.Deep.RegionHeld3
import Derived.Laws.EntriesVeiled
import Derived.Deep.DeepCutAuto
import Derived.Outline
namespace Go.Proofs.YtebpnnakcodjdaaDoor
open Go Go.RowKit

theorem iClonameCheck (a : PgA) (w : World) : Calls Tryd.prog 24 #[a.val] w fun e w' => e = .returned (.func (.func 42) #[] #[.pointer (some ⟨w.heap.size, 0, none⟩)]) ∧ w' = w.alloc (.cells a.fs 27) := by
  obtain ⟨A1, n1, c1, A2, n2, c2, A3, n3, c3, A4, n4, c4, A5, n5, c5⟩ := a
  simp only [PgA.val, PgA.fs]
  go_enter Tryd.func24, Tryd.ntmps24
  go_wp2
  go_ret
  exact ⟨rfl, rfl⟩
theorem iClolimitCheck (a : PgA) (w : World) : Calls Tryd.prog 25 #[a.val] w fun e w' => e = .returned (.func (.func 48) #[] #[.pointer (some ⟨w.heap.size, 0, none⟩)]) ∧ w' = w.alloc (.cells a.fs 27) := by
  obtain ⟨A1, n1, c1, A2, n2, c2, A3, n3, c3, A4, n4, c4, A5, n5, c5⟩ := a
  simp only [PgA.val, PgA.fs]
  go_enter Tryd.func25, Tryd.ntmps25
  go_wp2
  go_ret
  exact ⟨rfl, rfl⟩
theorem iCloinitCheck (a : PgA) (w : World) : Calls Tryd.prog 26 #[a.val] w fun e w' => e = .returned (.func (.func 49) #[] #[.pointer (some ⟨w.heap.size, 0, none⟩)]) ∧ w' = w.alloc (.cells a.fs 27) := by
  obtain ⟨A1, n1, c1, A2, n2, c2, A3, n3, c3, A4, n4, c4, A5, n5, c5⟩ := a
  simp only [PgA.val, PgA.fs]
  go_enter Tryd.func26, Tryd.ntmps26
  go_wp2
  go_ret
  exact ⟨rfl, rfl⟩
theorem iClocodeCheck (a : PgA) (w : World) : Calls Tryd.prog 27 #[a.val] w fun e w' => e = .returned (.func (.func 51) #[] #[.pointer (some ⟨w.heap.size, 0, none⟩)]) ∧ w' = w.alloc (.cells a.fs 27) := by
  obtain ⟨A1, n1, c1, A2, n2, c2, A3, n3, c3, A4, n4, c4, A5, n5, c5⟩ := a
  simp only [PgA.val, PgA.fs]
  go_enter Tryd.func27, Tryd.ntmps27
  go_wp2
  go_ret
  exact ⟨rfl, rfl⟩
theorem iClothreadCheck (a : PgA) (w : World) : Calls Tryd.prog 28 #[a.val] w fun e w' => e = .returned (.func (.func 54) #[] #[.pointer (some ⟨w.heap.size, 0, none⟩)]) ∧ w' = w.alloc (.cells a.fs 27) := by
  obtain ⟨A1, n1, c1, A2, n2, c2, A3, n3, c3, A4, n4, c4, A5, n5, c5⟩ := a
  simp only [PgA.val, PgA.fs]
  go_enter Tryd.func28, Tryd.ntmps28
  go_wp2
  go_ret
  exact ⟨rfl, rfl⟩
/-- What the five checks give, in order; the first that is an error counts. -/
def Prg.ck (p : Prg) : Nat → Int × Int × Int
  | 0 => (p.nmE.1, p.nmE.2, -1)
  | 1 => if p.many then (4, -1, -1) else (0, -1, -1)
  | 2 => if (p.vars.all fun v => isVal v.2) = true then (0, -1, -1) else (2, -1, -1)
  | 3 => p.fnF p.funcs 0
  | _ => (p.thE, -1, -1)
def fstE (g : Nat → Int × Int × Int) : Nat → Nat → Int × Int × Int
  | 0, _ => (0, -1, -1)
  | d + 1, k => if (g k).1 ≠ 0 then g k else fstE g d (k + 1)
theorem chkFirst (p : Prg) : p.chk = fstE p.ck 5 0 := by
  unfold Prg.chk
  simp only [fstE, Prg.ck]
  generalize p.nmE = e1
  generalize p.fnF p.funcs 0 = e4
  generalize p.thE = e5
  generalize p.many = q2
  generalize (p.vars.all fun v => isVal v.2) = q3
  obtain ⟨x1, y1⟩ := e1
  obtain ⟨x4, y4, z4⟩ := e4
  by_cases h1 : x1 = 0 <;> by_cases h4 : x4 = 0 <;> by_cases h5 : e5 = 0 <;> cases q2 <;> cases q3 <;> simp [h1, h4, h5]
structure Clos (W : World) (g : Nat) (a : PgA) (b0 b1 b2 b3 b4 : Nat) : Prop where
  arr : Blk W g 74 #[.func (.func 42) #[] #[.pointer (some ⟨b0, 0, none⟩)], .func (.func 48) #[] #[.pointer (some ⟨b1, 0, none⟩)], .func (.func 49) #[] #[.pointer (some ⟨b2, 0, none⟩)], .func (.func 51) #[] #[.pointer (some ⟨b3, 0, none⟩)], .func (.func 54) #[] #[.pointer (some ⟨b4, 0, none⟩)]]
  p0 : PBox W b0 a
  p1 : PBox W b1 a
  p2 : PBox W b2 a
  p3 : PBox W b3 a
  p4 : PBox W b4 a
/-- Six new blocks, where they lie. -/
theorem six (W : World) (o1 o2 o3 o4 o5 o6 : Obj) {Z : World} (hZ : Z = ((((((W.alloc o1).alloc o2).alloc o3).alloc o4).alloc o5).alloc o6).drew) :
    (Z.heap[W.heap.size]? = some o1 ∧ Z.heap[W.heap.size + 1]? = some o2 ∧ Z.heap[W.heap.size + 1 + 1]? = some o3 ∧ Z.heap[W.heap.size + 1 + 1 + 1]? = some o4 ∧ Z.heap[W.heap.size + 1 + 1 + 1 + 1]? = some o5 ∧ Z.heap[W.heap.size + 1 + 1 + 1 + 1 + 1]? = some o6) ∧ Below W.heap.size W Z := by
  subst hZ
  have new : ∀ (X : World) (o : Obj) (k : Nat), X.heap.size = k → (X.alloc o).heap[k]? = some o := fun X o k h => h ▸ World.alloc_heap_new X o
  have old : ∀ (X : World) (o o' : Obj) (k : Nat), X.heap[k]? = some o' → (X.alloc o).heap[k]? = some o' := fun X o o' k h => ((belowAlloc X o).block k (Array.getElem?_eq_some_iff.1 h).1).trans h
  refine ⟨⟨old _ _ _ _ (old _ _ _ _ (old _ _ _ _ (old _ _ _ _ (old _ _ _ _ (new _ _ _ rfl))))), old _ _ _ _ (old _ _ _ _ (old _ _ _ _ (old _ _ _ _ (new _ _ _ (by simp))))), old _ _ _ _ (old _ _ _ _ (old _ _ _ _ (new _ _ _ (by simp)))), old _ _ _ _ (old _ _ _ _ (new _ _ _ (by simp))), old _ _ _ _ (new _ _ _ (by simp)), new _ _ _ (by simp)⟩, ?_⟩
  exact belowDr (belowAl (belowAl (belowAl (belowAl (belowAl (belowAl (Below.refl _ W) _) _) _) _) _) _)
set_option maxRecDepth 100000 in
set_option maxHeartbeats 8000000 in
theorem iCheckP {a : PgA} {p : Prg} (w : World) (hP : PgW w a p) (hW : p.Wf) (hT : InsT w) (hN : Nm w) : Calls Tryd.prog 14 #[a.val] w fun e w' => e = err3 p.chk ∧ Below w.heap.size w w' := by
  obtain ⟨R, hR⟩ : ∃ R, p.chk = R := ⟨_, rfl⟩
  rw [hR]
  have HR := Lib.hid ((chkFirst p).symm.trans hR)
  have HP := Lib.hid hP
  have HW := Lib.hid hW
  have HTN := Lib.hid (And.intro hT hN)
  have HnameCheck := Lib.hid (fun X => iClonameCheck a X)
  have HlimitCheck := Lib.hid (fun X => iClolimitCheck a X)
  have HinitCheck := Lib.hid (fun X => iCloinitCheck a X)
  have HcodeCheck := Lib.hid (fun X => iClocodeCheck a X)
  have HthreadCheck := Lib.hid (fun X => iClothreadCheck a X)
  obtain ⟨A1, n1, c1, A2, n2, c2, A3, n3, c3, A4, n4, c4, A5, n5, c5⟩ := a
  have hm4 := hP.funcs.max
  clear hP hW hT hN hR hm4
  simp only [PgA.val, PgA.fs] at *
  obtain ⟨W, hWd⟩ : ∃ W, w.alloc (.cells #[.slice A1 n1 c1, .slice A2 n2 c2, .slice A3 n3 c3, .slice A4 n4 c4, .slice A5 n5 c5] 27) = W := ⟨_, rfl⟩
  have hbW : Below w.heap.size w W := by rw [← hWd]; exact belowAlloc w _
  have HB : Hid (Blk W w.heap.size 27 #[.slice A1 n1 c1, .slice A2 n2 c2, .slice A3 n3 c3, .slice A4 n4 c4, .slice A5 n5 c5]) := by rw [← hWd]; exact Lib.hid (Blk.new w _ _)
  have HWd := Lib.hid hWd
  have HKP : Hid (∀ Y, Below W.heap.size W Y → Below W.heap.size W Y ∧ Y.cell? ⟨w.heap.size, 0, none⟩ = some (.slice A1 n1 c1) ∧ Y.cell? ⟨w.heap.size, 1, none⟩ = some (.slice A2 n2 c2) ∧ Y.cell? ⟨w.heap.size, 2, none⟩ = some (.slice A3 n3 c3) ∧ Y.cell? ⟨w.heap.size, 3, none⟩ = some (.slice A4 n4 c4) ∧ Y.cell? ⟨w.heap.size, 4, none⟩ = some (.slice A5 n5 c5)) := Lib.hid fun Y hY => by
    have h := HB.out.below' hY
    exact ⟨hY, h.cell 0, h.cell 1, h.cell 2, h.cell 3, h.cell 4⟩
  have hbd : Below W.heap.size W W.drew := (Below.refl _ W).drew
  clear hWd
  go_enter Tryd.func14, Tryd.ntmps14
  go_wp2_with fail
  rw [HWd.out]
  go_cut [5] from 11 to 21 (fun s5 wx => ∃ g b0 b1 b2 b3 b4, s5 = .pointer (some ⟨g, 0, none⟩) ∧ Hid (Clos wx g ⟨A1, n1, c1, A2, n2, c2, A3, n3, c3, A4, n4, c4, A5, n5, c5⟩ b0 b1 b2 b3 b4) ∧ Below W.heap.size W wx)
  case first =>
    go_region_held3 (fun w' => Below W.heap.size W w' ∧ w'.cell? ⟨w.heap.size, 0, none⟩ = some (.slice A1 n1 c1) ∧ w'.cell? ⟨w.heap.size, 1, none⟩ = some (.slice A2 n2 c2) ∧ w'.cell? ⟨w.heap.size, 2, none⟩ = some (.slice A3 n3 c3) ∧ w'.cell? ⟨w.heap.size, 3, none⟩ = some (.slice A4 n4 c4) ∧ w'.cell? ⟨w.heap.size, 4, none⟩ = some (.slice A5 n5 c5))
      (first
        | with_reducible assumption
        | with_reducible exact HKP.out _ hbd
        | with_reducible exact HKP.out _ (belowDr (belowAl (Below.refl _ W) _))
        | with_reducible exact HKP.out _ (belowDr (belowAl (belowAl (Below.refl _ W) _) _))
        | with_reducible exact HKP.out _ (belowDr (belowAl (belowAl (belowAl (Below.refl _ W) _) _) _))
        | with_reducible exact HKP.out _ (belowDr (belowAl (belowAl (belowAl (belowAl (Below.refl _ W) _) _) _) _))
        | with_reducible exact HKP.out _ (belowDr (belowAl (belowAl (belowAl (belowAl (belowAl (Below.refl _ W) _) _) _) _) _))
        | with_reducible exact HKP.out _ (belowDr (belowAl (belowAl (belowAl (belowAl (belowAl (belowAl (Below.refl _ W) _) _) _) _) _) _)))
      (first
        | (go_at_call 24; refine (HnameCheck.out _).mono ?_; rintro e w1 ⟨rfl, rfl⟩)
        | (go_at_call 25; refine (HlimitCheck.out _).mono ?_; rintro e w2 ⟨rfl, rfl⟩)
        | (go_at_call 26; refine (HinitCheck.out _).mono ?_; rintro e w3 ⟨rfl, rfl⟩)
        | (go_at_call 27; refine (HcodeCheck.out _).mono ?_; rintro e w4 ⟨rfl, rfl⟩)
        | (go_at_call 28; refine (HthreadCheck.out _).mono ?_; rintro e w5 ⟨rfl, rfl⟩))
    all_goals (
      go_wp2_with fail
      go_meet
      obtain ⟨⟨h0, h1, h2, h3, h4, h5⟩, hsb⟩ := six W _ _ _ _ _ _ rfl
      first
        | exact ⟨_, _, _, _, _, _, rfl, Lib.hid ⟨h0, h1, h2, h3, h4, h5⟩, hsb⟩
        | exact ⟨_, _, _, _, _, _, rfl, Lib.hid ⟨h1, h0, h2, h3, h4, h5⟩, hsb⟩
        | exact ⟨_, _, _, _, _, _, rfl, Lib.hid ⟨h2, h0, h1, h3, h4, h5⟩, hsb⟩
        | exact ⟨_, _, _, _, _, _, rfl, Lib.hid ⟨h3, h0, h1, h2, h4, h5⟩, hsb⟩
        | exact ⟨_, _, _, _, _, _, rfl, Lib.hid ⟨h4, h0, h1, h2, h3, h5⟩, hsb⟩
        | exact ⟨_, _, _, _, _, _, rfl, Lib.hid ⟨h5, h0, h1, h2, h3, h4⟩, hsb⟩)
  case rest =>
    obtain ⟨g, b0, b1, b2, b3, b4, rfl, HC, hbc⟩ := hcut
    have hbX := belowThen hbW hbc
    have HX0 : Hid (∀ X, Below wc.heap.size wc X → Calls Tryd.prog 42 #[.pointer (some ⟨b0, 0, none⟩)] X fun e X' => e = err3 (p.ck 0) ∧ Below X.heap.size X X') := Lib.hid fun X hX' => by
      have hX := belowThen hbX hX'
      have hC := HC.out.p0.below hX'
      exact (iNameChk (b := b0) X (HP.out.below hX) hC HW.out).mono fun e X' h => ⟨h.1, h.2⟩
    have HX1 : Hid (∀ X, Below wc.heap.size wc X → Calls Tryd.prog 48 #[.pointer (some ⟨b1, 0, none⟩)] X fun e X' => e = err3 (p.ck 1) ∧ Below X.heap.size X X') := Lib.hid fun X hX' => by
      have hX := belowThen hbX hX'
      have hC := HC.out.p1.below hX'
      exact (iLimits (b := b1) X (HP.out.below hX) hC).mono fun e X' h => ⟨h.1, h.2 ▸ Below.refl _ _⟩
    have HX2 : Hid (∀ X, Below wc.heap.size wc X → Calls Tryd.prog 49 #[.pointer (some ⟨b2, 0, none⟩)] X fun e X' => e = err3 (p.ck 2) ∧ Below X.heap.size X X') := Lib.hid fun X hX' => by
      have hX := belowThen hbX hX'
      have hC := HC.out.p2.below hX'
      exact (iInit (b := b2) X (HP.out.below hX) hC).mono fun e X' h => ⟨h.1, h.2⟩
    have HX3 : Hid (∀ X, Below wc.heap.size wc X → Calls Tryd.prog 51 #[.pointer (some ⟨b3, 0, none⟩)] X fun e X' => e = err3 (p.ck 3) ∧ Below X.heap.size X X') := Lib.hid fun X hX' => by
      have hX := belowThen hbX hX'
      have hC := HC.out.p3.below hX'
      exact (iCodeChk (b := b3) X (HP.out.below hX) hC HW.out (HTN.out.1.below hX) (HTN.out.2.below hX)).mono fun e X' h => ⟨h.1, h.2⟩
    have HX4 : Hid (∀ X, Below wc.heap.size wc X → Calls Tryd.prog 54 #[.pointer (some ⟨b4, 0, none⟩)] X fun e X' => e = err3 (p.ck 4) ∧ Below X.heap.size X X') := Lib.hid fun X hX' => by
      have hX := belowThen hbX hX'
      have hC := HC.out.p4.below hX'
      exact (iThreads (b := b4) X (HP.out.below hX) hC).mono fun e X' h => ⟨h.1, h.2⟩
    have k0 := HC.out.arr.cell 0
    have k1 := HC.out.arr.cell 1
    have k2 := HC.out.arr.cell 2
    have k3 := HC.out.arr.cell 3
    have k4 := HC.out.arr.cell 4
    simp only [List.getElem?_toArray, List.getElem?_cons_zero, List.getElem?_cons_succ] at k0 k1 k2 k3 k4
    have q0 : ∀ X, (Instr.index 74 (.agg #[.func (.func 42) #[] #[.pointer (some ⟨b0, 0, none⟩)], .func (.func 48) #[] #[.pointer (some ⟨b1, 0, none⟩)], .func (.func 49) #[] #[.pointer (some ⟨b2, 0, none⟩)], .func (.func 51) #[] #[.pointer (some ⟨b3, 0, none⟩)], .func (.func 54) #[] #[.pointer (some ⟨b4, 0, none⟩)]]) (.int .i64 0)).run Tryd.prog X = .ok (.func (.func 42) #[] #[.pointer (some ⟨b0, 0, none⟩)]) X := fun _ => by kernel_rfl
    have q1 : ∀ X, (Instr.index 74 (.agg #[.func (.func 42) #[] #[.pointer (some ⟨b0, 0, none⟩)], .func (.func 48) #[] #[.pointer (some ⟨b1, 0, none⟩)], .func (.func 49) #[] #[.pointer (some ⟨b2, 0, none⟩)], .func (.func 51) #[] #[.pointer (some ⟨b3, 0, none⟩)], .func (.func 54) #[] #[.pointer (some ⟨b4, 0, none⟩)]]) (.int .i64 1)).run Tryd.prog X = .ok (.func (.func 48) #[] #[.pointer (some ⟨b1, 0, none⟩)]) X := fun _ => by kernel_rfl
    have q2 : ∀ X, (Instr.index 74 (.agg #[.func (.func 42) #[] #[.pointer (some ⟨b0, 0, none⟩)], .func (.func 48) #[] #[.pointer (some ⟨b1, 0, none⟩)], .func (.func 49) #[] #[.pointer (some ⟨b2, 0, none⟩)], .func (.func 51) #[] #[.pointer (some ⟨b3, 0, none⟩)], .func (.func 54) #[] #[.pointer (some ⟨b4, 0, none⟩)]]) (.int .i64 2)).run Tryd.prog X = .ok (.func (.func 49) #[] #[.pointer (some ⟨b2, 0, none⟩)]) X := fun _ => by kernel_rfl
    have q3 : ∀ X, (Instr.index 74 (.agg #[.func (.func 42) #[] #[.pointer (some ⟨b0, 0, none⟩)], .func (.func 48) #[] #[.pointer (some ⟨b1, 0, none⟩)], .func (.func 49) #[] #[.pointer (some ⟨b2, 0, none⟩)], .func (.func 51) #[] #[.pointer (some ⟨b3, 0, none⟩)], .func (.func 54) #[] #[.pointer (some ⟨b4, 0, none⟩)]]) (.int .i64 3)).run Tryd.prog X = .ok (.func (.func 51) #[] #[.pointer (some ⟨b3, 0, none⟩)]) X := fun _ => by kernel_rfl
    have q4 : ∀ X, (Instr.index 74 (.agg #[.func (.func 42) #[] #[.pointer (some ⟨b0, 0, none⟩)], .func (.func 48) #[] #[.pointer (some ⟨b1, 0, none⟩)], .func (.func 49) #[] #[.pointer (some ⟨b2, 0, none⟩)], .func (.func 51) #[] #[.pointer (some ⟨b3, 0, none⟩)], .func (.func 54) #[] #[.pointer (some ⟨b4, 0, none⟩)]]) (.int .i64 4)).run Tryd.prog X = .ok (.func (.func 54) #[] #[.pointer (some ⟨b4, 0, none⟩)]) X := fun _ => by kernel_rfl
    go_wp2
    go_loopw [23] (fun i wr => ∃ (k : Nat) (x : Int), k ≤ 5 ∧ x = k ∧ i = .int .i64 x ∧ Below wc.heap.size wc wr ∧ Hid (fstE p.ck (5 - k) k = R)) (fun i _ => 5 - (intOf i).toNat)
    case atStart => exact ⟨0, 0, Nat.zero_le _, rfl, rfl, Below.refl _ _, HR⟩
    case round =>
      obtain ⟨k, x, hk, hx, rfl, hb, HE⟩ := hrel
      have hbw := belowThen hbX hb
      have hcase : k = 0 ∨ k = 1 ∨ k = 2 ∨ k = 3 ∨ k = 4 ∨ k = 5 := by omega
      rcases hcase with rfl | rfl | rfl | rfl | rfl | rfl
      · obtain rfl : x = 0 := by omega
        obtain ⟨x, y, z, hr⟩ : ∃ x y z, p.ck 0 = (x, y, z) := ⟨_, _, _, rfl⟩
        have HH := HX0.out wr hb
        rw [hr] at HH
        simp only [err3] at HH
        have HH := Lib.hid HH
        have hst : fstE p.ck (5 - 0) 0 = if x ≠ 0 then (x, y, z) else fstE p.ck (5 - 1) 1 := by
          show (if (p.ck 0).1 ≠ 0 then p.ck 0 else fstE p.ck (5 - 1) 1) = _
          rw [hr]
        by_cases hx0 : x = 0
        · have HN := Lib.hid (show fstE p.ck (5 - 1) 1 = R by rw [← HE.out, hst, if_neg (by simpa using hx0)])
          subst hx0
          clear hst hr hx hk
          go_wp2_with (go_at_call 42; refine HH.out.mono ?_; rintro e w' ⟨rfl, b1⟩)
          go_roundw
          case rel => exact ⟨1, 1, by omega, rfl, rfl, belowThen hb b1, HN⟩
          case measure => simp [intOf]
        · have HN := Lib.hid (show (x, y, z) = R by rw [← HE.out, hst, if_pos hx0])
          have hxt : (x != 0) = true := by simpa using hx0
          clear hst hr hx hk hx0
          go_wp2_with (go_at_call 42; refine HH.out.mono ?_; rintro e w' ⟨rfl, b1⟩)
          go_ret3
          exact ⟨by rw [← HN.out]; rfl, belowThen hbw b1⟩
      · obtain rfl : x = 1 := by omega
        obtain ⟨x, y, z, hr⟩ : ∃ x y z, p.ck 1 = (x, y, z) := ⟨_, _, _, rfl⟩
        have HH := HX1.out wr hb
        rw [hr] at HH
        simp only [err3] at HH
        have HH := Lib.hid HH
        have hst : fstE p.ck (5 - 1) 1 = if x ≠ 0 then (x, y, z) else fstE p.ck (5 - 2) 2 := by
          show (if (p.ck 1).1 ≠ 0 then p.ck 1 else fstE p.ck (5 - 2) 2) = _
          rw [hr]
        by_cases hx0 : x = 0
        · have HN := Lib.hid (show fstE p.ck (5 - 2) 2 = R by rw [← HE.out, hst, if_neg (by simpa using hx0)])
          subst hx0
          clear hst hr hx hk
          go_wp2_with (go_at_call 48; refine HH.out.mono ?_; rintro e w' ⟨rfl, b1⟩)
          go_roundw
          case rel => exact ⟨2, 2, by omega, rfl, rfl, belowThen hb b1, HN⟩
          case measure => simp [intOf]
        · have HN := Lib.hid (show (x, y, z) = R by rw [← HE.out, hst, if_pos hx0])
          have hxt : (x != 0) = true := by simpa using hx0
          clear hst hr hx hk hx0
          go_wp2_with (go_at_call 48; refine HH.out.mono ?_; rintro e w' ⟨rfl, b1⟩)
          go_ret3
          exact ⟨by rw [← HN.out]; rfl, belowThen hbw b1⟩
      · obtain rfl : x = 2 := by omega
        obtain ⟨x, y, z, hr⟩ : ∃ x y z, p.ck 2 = (x, y, z) := ⟨_, _, _, rfl⟩
        have HH := HX2.out wr hb
        rw [hr] at HH
        simp only [err3] at HH
        have HH := Lib.hid HH
        have hst : fstE p.ck (5 - 2) 2 = if x ≠ 0 then (x, y, z) else fstE p.ck (5 - 3) 3 := by
          show (if (p.ck 2).1 ≠ 0 then p.ck 2 else fstE p.ck (5 - 3) 3) = _
          rw [hr]
        by_cases hx0 : x = 0
        · have HN := Lib.hid (show fstE p.ck (5 - 3) 3 = R by rw [← HE.out, hst, if_neg (by simpa using hx0)])
          subst hx0
          clear hst hr hx hk
          go_wp2_with (go_at_call 49; refine HH.out.mono ?_; rintro e w' ⟨rfl, b1⟩)
          go_roundw
          case rel => exact ⟨3, 3, by omega, rfl, rfl, belowThen hb b1, HN⟩
          case measure => simp [intOf]
        · have HN := Lib.hid (show (x, y, z) = R by rw [← HE.out, hst, if_pos hx0])
          have hxt : (x != 0) = true := by simpa using hx0
          clear hst hr hx hk hx0
          go_wp2_with (go_at_call 49; refine HH.out.mono ?_; rintro e w' ⟨rfl, b1⟩)
          go_ret3
          exact ⟨by rw [← HN.out]; rfl, belowThen hbw b1⟩
      · obtain rfl : x = 3 := by omega
        obtain ⟨x, y, z, hr⟩ : ∃ x y z, p.ck 3 = (x, y, z) := ⟨_, _, _, rfl⟩
        have HH := HX3.out wr hb
        rw [hr] at HH
        simp only [err3] at HH
        have HH := Lib.hid HH
        have hst : fstE p.ck (5 - 3) 3 = if x ≠ 0 then (x, y, z) else fstE p.ck (5 - 4) 4 := by
          show (if (p.ck 3).1 ≠ 0 then p.ck 3 else fstE p.ck (5 - 4) 4) = _
          rw [hr]
        by_cases hx0 : x = 0
        · have HN := Lib.hid (show fstE p.ck (5 - 4) 4 = R by rw [← HE.out, hst, if_neg (by simpa using hx0)])
          subst hx0
          clear hst hr hx hk
          go_wp2_with (go_at_call 51; refine HH.out.mono ?_; rintro e w' ⟨rfl, b1⟩)
          go_roundw
          case rel => exact ⟨4, 4, by omega, rfl, rfl, belowThen hb b1, HN⟩
          case measure => simp [intOf]
        · have HN := Lib.hid (show (x, y, z) = R by rw [← HE.out, hst, if_pos hx0])
          have hxt : (x != 0) = true := by simpa using hx0
          clear hst hr hx hk hx0
          go_wp2_with (go_at_call 51; refine HH.out.mono ?_; rintro e w' ⟨rfl, b1⟩)
          go_ret3
          exact ⟨by rw [← HN.out]; rfl, belowThen hbw b1⟩
      · obtain rfl : x = 4 := by omega
        obtain ⟨x, y, z, hr⟩ : ∃ x y z, p.ck 4 = (x, y, z) := ⟨_, _, _, rfl⟩
        have HH := HX4.out wr hb
        rw [hr] at HH
        simp only [err3] at HH
        have HH := Lib.hid HH
        have hst : fstE p.ck (5 - 4) 4 = if x ≠ 0 then (x, y, z) else fstE p.ck (5 - 5) 5 := by
          show (if (p.ck 4).1 ≠ 0 then p.ck 4 else fstE p.ck (5 - 5) 5) = _
          rw [hr]
        by_cases hx0 : x = 0
        · have HN := Lib.hid (show fstE p.ck (5 - 5) 5 = R by rw [← HE.out, hst, if_neg (by simpa using hx0)])
          subst hx0
          clear hst hr hx hk
          go_wp2_with (go_at_call 54; refine HH.out.mono ?_; rintro e w' ⟨rfl, b1⟩)
          go_roundw
          case rel => exact ⟨5, 5, by omega, rfl, rfl, belowThen hb b1, HN⟩
          case measure => simp [intOf]
        · have HN := Lib.hid (show (x, y, z) = R by rw [← HE.out, hst, if_pos hx0])
          have hxt : (x != 0) = true := by simpa using hx0
          clear hst hr hx hk hx0
          go_wp2_with (go_at_call 54; refine HH.out.mono ?_; rintro e w' ⟨rfl, b1⟩)
          go_ret3
          exact ⟨by rw [← HN.out]; rfl, belowThen hbw b1⟩
      · obtain rfl : x = 5 := by omega
        have HN := Lib.hid (show (0, -1, -1) = R from HE.out)
        clear hx hk
        go_wp2
        go_ret3
        exact ⟨by rw [← HN.out]; rfl, hbw⟩
end Go.Proofs.YtebpnnakcodjdaaDoor
