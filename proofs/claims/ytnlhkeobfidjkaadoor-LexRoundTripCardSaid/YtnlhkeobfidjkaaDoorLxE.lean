/-
  The contract of (lex.shape).end: the offset behind the longest text of the shape that begins at an offset.
-/
import Derived.Test.YtnlhkeobfidjkaaDoorLxA
import Derived.Test.YtnlhkeobfidjkaaDoorLxW
import Derived.Deep.RegionHeld3
namespace Go.Proofs.YtnlhkeobfidjkaaDoor
open Go Go.RowKit

/-- How long a text of the shape is that begins a text. -/
def endP (p q : UInt8 → Bool) : List UInt8 → Nat
  | [] => 0
  | c :: r => if p c then 1 + (r.takeWhile q).length else 0
theorem dropAt (s : ByteArray) {k : Nat} (h : k < s.size) : s.data.toList.drop k = s[k] :: s.data.toList.drop (k + 1) := List.drop_eq_getElem_cons (l := s.data.toList) h
theorem dropEnd (s : ByteArray) {k : Nat} (h : s.size ≤ k) : s.data.toList.drop k = [] := List.drop_eq_nil_of_le h
theorem twGo (s : ByteArray) (q : UInt8 → Bool) {k : Nat} (h : k < s.size) (hq : q s[k] = true) : ((s.data.toList.drop k).takeWhile q).length = ((s.data.toList.drop (k + 1)).takeWhile q).length + 1 := by
  rw [dropAt s h, List.takeWhile_cons, hq]; rfl
theorem twStop (s : ByteArray) (q : UInt8 → Bool) {k : Nat} (h : k < s.size) (hq : q s[k] = false) : ((s.data.toList.drop k).takeWhile q).length = 0 := by
  rw [dropAt s h, List.takeWhile_cons, hq]; rfl
theorem twEnd (s : ByteArray) (q : UInt8 → Bool) {k : Nat} (h : s.size ≤ k) : ((s.data.toList.drop k).takeWhile q).length = 0 := by
  rw [dropEnd s h]; rfl
theorem retN {a b : Nat} (h : a = b) : Ending.returned (.int .i64 (a : Int)) = .returned (.int .i64 (b : Int)) := by rw [h]
set_option maxRecDepth 100000 in
set_option maxHeartbeats 2000000 in
theorem iEnd (kz : Int) (f f' : FuncId) (L L' : Array Value) (p q : UInt8 → Bool) (s : ByteArray) (at_ : Nat) (hs : s.size ≤ 281474976710656) (ha : at_ ≤ s.size) (w : World)
    (h1 : Cls w (.func (.func f) #[] L) p) (h2 : Cls w (.func (.func f') #[] L') q) :
    Calls Tryd.prog 18 #[.agg #[.int .i64 kz, .func (.func f) #[] L, .func (.func f') #[] L'], .string s, .int .i64 (at_ : Int)] w fun e w' => e = .returned (.int .i64 ((at_ + endP p q (s.data.toList.drop at_) : Nat) : Int)) ∧ Below w.heap.size w w' := by
  obtain ⟨R, hR⟩ : ∃ R, at_ + endP p q (s.data.toList.drop at_) = R := ⟨_, rfl⟩
  rw [hR]
  have HR := Lib.hid hR
  obtain ⟨W, hWE⟩ : ∃ W, w.alloc (.cells #[.int .i64 kz, .func (.func f) #[] L, .func (.func f') #[] L'] 47) = W := ⟨_, rfl⟩
  have hbW : Below w.heap.size w W := by rw [← hWE]; exact belowAlloc w _
  have hB : Blk W w.heap.size 47 #[.int .i64 kz, .func (.func f) #[] L, .func (.func f') #[] L'] := by rw [← hWE]; exact Blk.new w _ _
  have hk1 := h1.below hbW
  have hk2 := h2.below hbW
  obtain ⟨_, _, e1, he1, hc1⟩ := hk1
  injection e1 with e1 e2 e3
  injection e1 with e1
  subst e1; subst e3
  obtain ⟨_, _, e1, he2, hc2⟩ := hk2
  injection e1 with e1 e2 e3
  injection e1 with e1
  subst e1; subst e3
  have HC1 := Lib.hid hc1
  have HC2 := Lib.hid hc2
  have c1 := hB.cell 1
  have c2 := hB.cell 2
  simp only [List.getElem?_toArray, List.getElem?_cons_succ, List.getElem?_cons_zero] at c1 c2
  have HW := Lib.hid hWE
  have HBW := Lib.hid hbW
  have HDN := Lib.hid (fun X (hX : Below W.heap.size W X) nq => belowDrewN hX nq)
  clear hWE hB hR h1 h2 hc1 hc2 hbW
  by_cases hlt : at_ < s.size
  · have hne : ((at_ : Int) == (s.size : Int)) = false := beq_eq_false_iff_ne.2 (by omega)
    have hai0 : (0 : Int) ≤ at_ := by omega
    have hai1 : (at_ : Int) < s.size := by omega
    have HF := Lib.hid (fun X (hX : Below W.heap.size W X) => HC1.out X hX s[at_])
    obtain ⟨b1, hb1⟩ : ∃ b, p s[at_] = b := ⟨_, rfl⟩
    cases b1
    · have HX := Lib.hid (show at_ = R by rw [← HR.out, dropAt s hlt, endP, hb1]; simp)
      rw [hb1] at HF
      clear hb1
      go_enter Tryd.func18, Tryd.ntmps18
      go_wp2_with fail
      rw [HW.out]
      go_quiet ((exact Calls.quiet_of_same ((HF.out _ (HDN.out _ (Below.refl _ _) _)).mono fun _ _ h => ⟨h.1, h.2.symm⟩)))
      go_wp2
      go_ret
      exact ⟨retN HX.out, belowThen HBW.out (HDN.out _ (Below.refl _ _) _)⟩
    · have HX := Lib.hid (show at_ + 1 + ((s.data.toList.drop (at_ + 1)).takeWhile q).length = R by rw [← HR.out, dropAt s hlt, endP, hb1]; simp; omega)
      rw [hb1] at HF
      clear hb1
      go_enter Tryd.func18, Tryd.ntmps18
      go_wp2_with fail
      rw [HW.out]
      go_quiet ((exact Calls.quiet_of_same ((HF.out _ (HDN.out _ (Below.refl _ _) _)).mono fun _ _ h => ⟨h.1, h.2.symm⟩)))
      go_wp2
      go_loopw [2] (fun vk wr => ∃ k : Nat, k ≤ s.size ∧ vk = .int .i64 k ∧ Below W.heap.size W wr ∧ Hid (k + ((s.data.toList.drop k).takeWhile q).length = R)) (fun i _ => s.size - (intOf i).toNat)
      case atStart => exact ⟨at_ + 1, by omega, by go_num, HDN.out _ (Below.refl _ _) _, HX⟩
      case round =>
        clear hne
        obtain ⟨k, hk, rfl, hb, HA⟩ := hrel
        have c1 := (hb.cell (World.block_lt_of_cell? _ _ c1)).trans c1
        have c2 := (hb.cell (World.block_lt_of_cell? _ _ c2)).trans c2
        by_cases hkl : k < s.size
        · have hk0 : (0 : Int) ≤ k := by omega
          have hk1 : (k : Int) < s.size := by omega
          have dk : decide ((k : Int) < s.size) = true := by simpa using hkl
          have HG := Lib.hid (fun X (hX : Below W.heap.size W X) => HC2.out X hX s[k])
          obtain ⟨b2, hb2⟩ : ∃ b, q s[k] = b := ⟨_, rfl⟩
          cases b2
          · have HY := Lib.hid (show k = R by rw [← HA.out, twStop s q hkl hb2]; rfl)
            rw [hb2] at HG
            clear hb2
            go_wp2_with fail
            go_quiet ((exact Calls.quiet_of_same ((HG.out _ (HDN.out _ hb _)).mono fun _ _ h => ⟨h.1, h.2.symm⟩)))
            go_wp2
            go_ret
            exact ⟨retN HY.out, belowThen HBW.out (HDN.out _ hb _)⟩
          · have HY := Lib.hid (show k + 1 + ((s.data.toList.drop (k + 1)).takeWhile q).length = R by rw [← HA.out, twGo s q hkl hb2]; omega)
            rw [hb2] at HG
            clear hb2
            go_wp2_with fail
            go_quiet ((exact Calls.quiet_of_same ((HG.out _ (HDN.out _ hb _)).mono fun _ _ h => ⟨h.1, h.2.symm⟩)))
            go_wp2
            go_roundw
            case rel => exact ⟨k + 1, by omega, by go_num, HDN.out _ hb _, HY⟩
            case measure => simp [intOf]; omega
        · have dk : decide ((k : Int) < s.size) = false := by simp; omega
          have HY := Lib.hid (show k = R by rw [← HA.out, twEnd s q (by omega)]; rfl)
          go_wp2_with fail
          go_quiet (fail)
          go_wp2
          go_ret
          exact ⟨retN HY.out, belowThen HBW.out (HDN.out _ hb _)⟩
  · have hne : ((at_ : Int) == (s.size : Int)) = true := by rw [beq_iff_eq]; omega
    have HX := Lib.hid (show at_ = R by rw [← HR.out, dropEnd s (by omega), endP]; rfl)
    go_enter Tryd.func18, Tryd.ntmps18
    go_wp2_with fail
    rw [HW.out]
    go_quiet (fail)
    go_wp2
    go_ret
    exact ⟨retN HX.out, belowThen HBW.out (HDN.out _ (Below.refl _ _) _)⟩
end Go.Proofs.YtnlhkeobfidjkaaDoor
