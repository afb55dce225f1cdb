/-
  The contract of the statements' own examples (awake): they hold.
-/
import Derived.Test.YthfllfdgndaddaaSubsets
namespace Go.Proofs.Ythfllfdgndaddaa
open Go.RowKit

set_option maxHeartbeats 400000 in
theorem rLists (ls : List (List Int)) (n : Nat) (hn : ls.length = n) (A B : Option Addr) (c d : Nat) (w : World) (ha : RdL w A c ls) (hb : RdL w B d ls) :
    Calls Try.prog 31 #[.slice A n c, .slice B n d] w fun e w' => e = .returned (.bool true) ∧ ∃ q, w' = w.drewN q := by
  have hla := ha.le
  have hca := ha.max
  unfold maxLen at hca
  rw [hn] at hla
  have HA := Lib.hid ha; clear ha
  have HB := Lib.hid hb; clear hb
  have HN := Lib.hid hn; clear hn
  have hnn : ((n : Int) != (n : Int)) = false := by simp
  go_enter Try.func31, Try.ntmps31
  go_wp2
  clear hnn
  go_loopw [5] (fun i wr => ∃ k : Nat, k ≤ n ∧ i = .int .i64 k ∧ ∃ q, wr = w.drewN q) (fun i _ => n - (intOf i).toNat)
  case atStart => exact ⟨0, Nat.zero_le _, rfl, 0, rfl⟩
  case round =>
    obtain ⟨k, hk, rfl, hq⟩ := hrel
    have HQ := Lib.hid hq; clear hq
    have HA1 : Hid (RdL wr A c ls) := by obtain ⟨q, e⟩ := HQ.out; rw [e]; exact HA.out.below (belowN w q)
    have HB1 : Hid (RdL wr B d ls) := by obtain ⟨q, e⟩ := HQ.out; rw [e]; exact HB.out.below (belowN w q)
    clear HA HB
    by_cases hlt : k < n
    · have hkl : k < ls.length := by rw [HN.out]; exact hlt
      obtain ⟨ad, A', c', rfl, hc, hra⟩ := HA1.out.one hkl
      obtain ⟨bd, B', d', rfl, hd, hrb⟩ := HB1.out.one hkl
      generalize ls[k] = l at *
      have RA := Lib.hid hra; clear hra
      have RB := Lib.hid hrb; clear hrb
      go_wp2
      go_quiet ((go_at_call 10; exact Calls.quiet_of (rInts l l true (eqB_yes rfl) A' B' c' d' _ (RA.out.drewN _) (RB.out.drewN _))))
      go_wp2
      go_roundw
      case rel => exact ⟨k + 1, by omega, by go_num, by obtain ⟨q, e⟩ := HQ.out; rw [e]; exact ⟨_, World.drewN_drewN _ _ _⟩⟩
      case measure => simp [intOf]; omega
    · go_wp2
      go_ret
      exact ⟨rfl, HQ.out⟩

/-- The literal of the example. -/
theorem litLists (w : World) : RdL (((((w.alloc (.cells #[] 3)).alloc (.cells #[.int .i64 2] 3)).alloc (.cells #[.int .i64 5] 3)).alloc (.cells #[.int .i64 2, .int .i64 5] 3)).alloc
    (.cells #[.slice (some ⟨w.heap.size, 0, none⟩) 0 0, .slice (some ⟨w.heap.size + 1, 0, none⟩) 1 1, .slice (some ⟨w.heap.size + 2, 0, none⟩) 1 1, .slice (some ⟨w.heap.size + 3, 0, none⟩) 2 2] 22))
    (some ⟨w.heap.size + 4, 0, none⟩) 4 [[], [2], [5], [2, 5]] := by
  have r1 := Rd.lit w [] 3 (by simp)
  have r2 := Rd.lit (w.alloc (.cells #[] 3)) [2] 3 (by simp)
  have r3 := Rd.lit ((w.alloc (.cells #[] 3)).alloc (.cells #[.int .i64 2] 3)) [5] 3 (by simp)
  have r4 := Rd.lit (((w.alloc (.cells #[] 3)).alloc (.cells #[.int .i64 2] 3)).alloc (.cells #[.int .i64 5] 3)) [2, 5] 3 (by simp)
  have r5 := Rds.lit ((((w.alloc (.cells #[] 3)).alloc (.cells #[.int .i64 2] 3)).alloc (.cells #[.int .i64 5] 3)).alloc (.cells #[.int .i64 2, .int .i64 5] 3))
    [.slice (some ⟨w.heap.size, 0, none⟩) 0 0, .slice (some ⟨w.heap.size + 1, 0, none⟩) 1 1, .slice (some ⟨w.heap.size + 2, 0, none⟩) 1 1, .slice (some ⟨w.heap.size + 3, 0, none⟩) 2 2] 22 (by simp [maxLen])
  have e : ∀ (w : World) (o : Obj), (w.alloc o).heap.size = w.heap.size + 1 := fun w o => by simp
  simp only [e, Nat.add_assoc, Nat.reduceAdd] at r2 r3 r4 r5
  refine ⟨_, r5, rfl, fun i h => ?_⟩
  match i, h with
  | 0, _ => exact ⟨_, _, rfl, (((r1.alloc _).alloc _).alloc _).alloc _⟩
  | 1, _ => exact ⟨_, _, rfl, ((r2.alloc _).alloc _).alloc _⟩
  | 2, _ => exact ⟨_, _, rfl, (r3.alloc _).alloc _⟩
  | 3, _ => exact ⟨_, _, rfl, r4.alloc _⟩

theorem litLen13 : mk [1, 2, 3, 4, 5, 6, 7, 8, 9, 10, 11, 12, 13] = [1, 2, 3, 4, 5, 6, 7, 8, 9, 10, 11, 12, 13] := by decide +kernel

theorem intsEq (l : List Int) (n m : Nat) (hn : l.length = n) (hm : l.length = m) (A B : Option Addr) (c d : Nat) (w : World) (ha : Rd w A c l) (hb : Rd w B d l) :
    Calls Try.prog 10 #[.slice A n c, .slice B m d] w fun e w' => e = .returned (.bool true) ∧ Below w.heap.size w w' := by
  subst hn; subst hm
  exact (rInts l l true (eqB_yes rfl) A B c d w ha hb).mono fun e w' ⟨h1, q, h2⟩ => ⟨h1, by rw [h2]; exact belowN w q⟩

theorem exSubs (w : World) : Calls Try.prog 29 #[.slice (some ⟨w.heap.size, 0, none⟩) 2 2] (w.alloc (.cells #[.int .i64 5, .int .i64 2] 3)) fun e w' => ∃ A c, e = .returned (.tuple #[.slice A 4 c, .int .i64 0]) ∧ RdL w' A c [[], [2], [5], [2, 5]] ∧ Below w.heap.size w w' := by
  refine (iSubsetsYes [5, 2] [2, 5] (by decide +kernel) 2 rfl (by omega) (by simp) _ 2 _ (Rd.lit w [5, 2] 3 (by simp))).mono ?_
  rintro e w1 ⟨v1, vs1, rfl, o1, i1, b1⟩
  have hu : upTo [2, 5] (([2, 5] : List Int).length + 1) = [[], [2], [5], [2, 5]] := by decide +kernel
  rw [hu] at i1
  obtain ⟨A1, c1, rfl, rl⟩ := RdL.ofOwn o1 i1
  exact ⟨A1, c1, rfl, rl, belowThen (belowAlloc w _) b1⟩
theorem exBig (w : World) : Calls Try.prog 29 #[.slice (some ⟨w.heap.size, 0, none⟩) 13 13] (w.alloc (.cells #[.int .i64 1, .int .i64 2, .int .i64 3, .int .i64 4, .int .i64 5, .int .i64 6, .int .i64 7, .int .i64 8, .int .i64 9, .int .i64 10, .int .i64 11, .int .i64 12, .int .i64 13] 3)) fun e w' => ∃ v, e = .returned (.tuple #[v, .int .i64 4]) ∧ Below w.heap.size w w' := by
  refine (iSubsetsNo [1, 2, 3, 4, 5, 6, 7, 8, 9, 10, 11, 12, 13] 13 rfl (by omega) (by rw [litLen13]; simp) _ 13 _ (Rd.lit w [1, 2, 3, 4, 5, 6, 7, 8, 9, 10, 11, 12, 13] 3 (by simp))).mono ?_
  rintro e w2 ⟨v2, vs2, rfl, _, _, b2⟩
  exact ⟨v2, rfl, belowThen (belowAlloc w _) b2⟩
theorem exMake (w : World) : Calls Try.prog 11 #[.slice (some ⟨w.heap.size, 0, none⟩) 3 3] (w.alloc (.cells #[.int .i64 3, .int .i64 1, .int .i64 3] 3)) fun e w' => ∃ A c, e = .returned (.slice A 2 c) ∧ Rd w' A c [1, 3] ∧ Below w.heap.size w w' := by
  refine (iMake [3, 1, 3] [1, 3] (by decide +kernel) (by simp) _ 3 _ (Rd.lit w [3, 1, 3] 3 (by simp))).mono ?_
  rintro e w3 ⟨A3, c3, rfl, r3, b3⟩
  exact ⟨A3, c3, rfl, r3, belowThen (belowAlloc w _) b3⟩
theorem exInts (A : Option Addr) (c : Nat) (w : World) (h : Rd w A c [1, 3]) : Calls Try.prog 10 #[.slice A 2 c, .slice (some ⟨w.heap.size, 0, none⟩) 2 2] (w.alloc (.cells #[.int .i64 1, .int .i64 3] 3)) fun e w' => e = .returned (.bool true) ∧ Below w.heap.size w w' :=
  (intsEq [1, 3] 2 2 rfl rfl A _ c 2 _ (h.alloc _) (Rd.lit w [1, 3] 3 (by simp))).mono fun e w' ⟨h1, h2⟩ => ⟨h1, belowThen (belowAlloc w _) h2⟩
theorem exMinus (w : World) : Calls Try.prog 25 #[.slice (some ⟨w.heap.size, 0, none⟩) 3 3, .slice (some ⟨w.heap.size + 1, 0, none⟩) 1 1] ((w.alloc (.cells #[.int .i64 1, .int .i64 2, .int .i64 3] 3)).alloc (.cells #[.int .i64 2] 3)) fun e w' => ∃ A c, e = .returned (.slice A 2 c) ∧ Rd w' A c [1, 3] ∧ Below w.heap.size w w' := by
  have r2 := Rd.lit (w.alloc (.cells #[.int .i64 1, .int .i64 2, .int .i64 3] 3)) [2] 3 (by simp)
  simp only [show ∀ (w : World) (o : Obj), (w.alloc o).heap.size = w.heap.size + 1 from fun w o => by simp] at r2
  refine (iMinus [1, 2, 3] [2] 3 1 rfl rfl [1, 3] (by decide +kernel) (by omega) (by omega) _ _ 3 1 _ ((Rd.lit w [1, 2, 3] 3 (by simp)).alloc _) r2).mono ?_
  rintro e w3 ⟨A3, c3, rfl, r3, b3⟩
  exact ⟨A3, c3, rfl, r3, belowThen (belowThen (belowAlloc w _) (belowAlloc _ _)) b3⟩
theorem exSub1 (w : World) : Calls Try.prog 27 #[.slice none 0 0, .slice (some ⟨w.heap.size, 0, none⟩) 1 1] (w.alloc (.cells #[.int .i64 7] 3)) fun e w' => e = .returned (.bool true) ∧ Below w.heap.size w w' :=
  (iSubset [] [7] 0 1 rfl rfl true (by decide +kernel) (by omega) (by omega) none _ 0 1 _ Rd.nil (Rd.lit w [7] 3 (by simp))).mono fun e w' ⟨h1, h2⟩ => ⟨h1, belowThen (belowAlloc w _) h2⟩
theorem exSub2 (w : World) : Calls Try.prog 27 #[.slice (some ⟨w.heap.size, 0, none⟩) 1 1, .slice (some ⟨w.heap.size + 1, 0, none⟩) 1 1] ((w.alloc (.cells #[.int .i64 8] 3)).alloc (.cells #[.int .i64 7] 3)) fun e w' => e = .returned (.bool false) ∧ Below w.heap.size w w' := by
  have r2 := Rd.lit (w.alloc (.cells #[.int .i64 8] 3)) [7] 3 (by simp)
  simp only [show ∀ (w : World) (o : Obj), (w.alloc o).heap.size = w.heap.size + 1 from fun w o => by simp] at r2
  exact (iSubset [8] [7] 1 1 rfl rfl false (by decide +kernel) (by omega) (by omega) _ _ 1 1 _ ((Rd.lit w [8] 3 (by simp)).alloc _) r2).mono fun e w' ⟨h1, h2⟩ => ⟨h1, belowThen (belowThen (belowAlloc w _) (belowAlloc _ _)) h2⟩
theorem exVal1 (w : World) : Calls Try.prog 13 #[.slice (some ⟨w.heap.size, 0, none⟩) 2 2] (w.alloc (.cells #[.int .i64 1, .int .i64 2] 3)) fun e w' => e = .returned (.bool true) ∧ Below w.heap.size w w' :=
  (iValid [1, 2] true (by decide +kernel) _ 2 _ (Rd.lit w [1, 2] 3 (by simp))).mono fun e w' ⟨h1, n, h2⟩ => ⟨h1, by rw [h2]; exact belowThen (belowAlloc w _) (belowN _ n)⟩
theorem exVal2 (w : World) : Calls Try.prog 13 #[.slice (some ⟨w.heap.size, 0, none⟩) 2 2] (w.alloc (.cells #[.int .i64 2, .int .i64 2] 3)) fun e w' => e = .returned (.bool false) ∧ Below w.heap.size w w' :=
  (iValid [2, 2] false (by decide +kernel) _ 2 _ (Rd.lit w [2, 2] 3 (by simp))).mono fun e w' ⟨h1, n, h2⟩ => ⟨h1, by rw [h2]; exact belowThen (belowAlloc w _) (belowN _ n)⟩
theorem exLists (A : Option Addr) (c : Nat) (w : World) (h : RdL w A c [[], [2], [5], [2, 5]]) :
    Calls Try.prog 31 #[.slice A 4 c, .slice (some ⟨w.heap.size + 4, 0, none⟩) 4 4] (((((w.alloc (.cells #[] 3)).alloc (.cells #[.int .i64 2] 3)).alloc (.cells #[.int .i64 5] 3)).alloc (.cells #[.int .i64 2, .int .i64 5] 3)).alloc
    (.cells #[.slice (some ⟨w.heap.size, 0, none⟩) 0 0, .slice (some ⟨w.heap.size + 1, 0, none⟩) 1 1, .slice (some ⟨w.heap.size + 2, 0, none⟩) 1 1, .slice (some ⟨w.heap.size + 3, 0, none⟩) 2 2] 22)) fun e w' => e = .returned (.bool true) ∧ Below w.heap.size w w' := by
  have B := belowThen (belowThen (belowThen (belowThen (belowAlloc w (.cells #[] 3)) (belowAlloc _ (.cells #[.int .i64 2] 3))) (belowAlloc _ (.cells #[.int .i64 5] 3))) (belowAlloc _ (.cells #[.int .i64 2, .int .i64 5] 3)))
    (belowAlloc _ (.cells #[.slice (some ⟨w.heap.size, 0, none⟩) 0 0, .slice (some ⟨w.heap.size + 1, 0, none⟩) 1 1, .slice (some ⟨w.heap.size + 2, 0, none⟩) 1 1, .slice (some ⟨w.heap.size + 3, 0, none⟩) 2 2] 22))
  exact (rLists [[], [2], [5], [2, 5]] 4 rfl A _ c 4 _ (h.below B) (litLists w)).mono fun e w' ⟨h1, n, h2⟩ => ⟨h1, by rw [h2]; exact belowThen B (belowN _ n)⟩

set_option maxHeartbeats 2000000 in
theorem awakeOk (w : World) : Calls Try.prog 9 #[] w fun e w' => e = .returned (.bool true) ∧ Below w.heap.size w w' := by
  go_enter Try.func9, Try.ntmps9
  go_wp2_with fail
  refine (exSubs _).mono ?_
  rintro e w1 ⟨A1, c1, rfl, rl, b1⟩
  have RL := Lib.hid rl; clear rl
  go_wp2_with fail
  refine (exBig _).mono ?_
  rintro e w2 ⟨v2, rfl, b2⟩
  go_wp2_with fail
  refine (exMake _).mono ?_
  rintro e w3 ⟨A3, c3, rfl, r3, b3⟩
  go_wp2_with fail
  refine (exInts A3 c3 _ r3).mono ?_
  rintro e w4 ⟨rfl, b4⟩
  clear r3
  go_wp2_with fail
  refine (exMinus _).mono ?_
  rintro e w5 ⟨A5, c5, rfl, r5, b5⟩
  go_wp2_with fail
  refine (exInts A5 c5 _ r5).mono ?_
  rintro e w6 ⟨rfl, b6⟩
  clear r5
  go_wp2_with fail
  refine (exSub1 _).mono ?_
  rintro e w7 ⟨rfl, b7⟩
  go_wp2_with fail
  refine (exSub2 _).mono ?_
  rintro e w8 ⟨rfl, b8⟩
  go_wp2_with fail
  refine (exVal1 _).mono ?_
  rintro e w9 ⟨rfl, b9⟩
  go_wp2_with fail
  refine (exVal2 _).mono ?_
  rintro e w10 ⟨rfl, b10⟩
  have C := belowThen b2 (belowThen b3 (belowThen b4 (belowThen b5 (belowThen b6 (belowThen b7 (belowThen b8 (belowThen b9 b10)))))))
  have R10 := Lib.hid (RL.out.below C)
  go_wp2_with fail
  refine (exLists A1 c1 _ R10.out).mono ?_
  rintro e w11 ⟨rfl, b11⟩
  go_wp2
  go_ret
  exact ⟨rfl, belowThen b1 (belowThen C b11)⟩
end Go.Proofs.Ythfllfdgndaddaa
