/-
  The contract of the reference's table: a row of n * n Booleans that tells which pairs a valid relation holds.
-/
import Derived.Test.YtjioiaeiggjneaaDoorKRRefV
import Derived.Test.YtjioiaeiggjneaaDoorKRowI
import Derived.Deep.OwnRows
import Derived.StillTailTactics
namespace Go.Proofs.YtjioiaeiggjneaaDoor
open Go.RowKit Go.Maps

/-- A table as a row: the pair (a, b) stands at a * n + b. -/
def flat (n : Nat) (f : Nat → Nat → Bool) (k : Nat) : Bool := f (k / n) (k % n)
theorem flatAt {n : Nat} {f : Nat → Nat → Bool} {a b : Nat} (hb : b < n) : flat n f (a * n + b) = f a b := by
  unfold flat
  have hn : 0 < n := by omega
  rw [Nat.mul_comm a n, Nat.mul_add_div hn, Nat.div_eq_of_lt hb, Nat.add_zero, Nat.mul_add_mod, Nat.mod_eq_of_lt hb]
theorem flatLt {n a b : Nat} (ha : a < n) (hb : b < n) : a * n + b < n * n := by
  have h := Nat.mul_le_mul_right n (show a + 1 ≤ n by omega)
  rw [Nat.add_mul, Nat.one_mul] at h
  omega
/-- The table of the first k pairs. -/
def tabTo (l : Prs) (k : Nat) (a b : Nat) : Bool := memP (l.take k) (a : Int) (b : Int)
theorem tabNext {n : Nat} {l : Prs} {k a b : Nat} (hk : k < l.length) (e1 : l[k].1 = (a : Int)) (e2 : l[k].2 = (b : Int)) (ha : a < n) (hb : b < n) {x : Nat} (hx : x < n * n) :
    with_ (flat n (tabTo l k)) (a * n + b) x = flat n (tabTo l (k + 1)) x := by
  have hn : 0 < n := by omega
  unfold with_ flat tabTo
  rw [← memPSucc hk, e1, e2]
  congr 1
  rw [Bool.eq_iff_iff, decide_eq_true_iff, decide_eq_true_iff]
  have hd := Nat.div_add_mod x n
  have hm := Nat.mod_lt x hn
  constructor
  · rintro rfl
    have h1 : (a * n + b) / n = a := by rw [Nat.mul_comm a n, Nat.mul_add_div hn, Nat.div_eq_of_lt hb, Nat.add_zero]
    have h2 : (a * n + b) % n = b := by rw [Nat.mul_comm a n, Nat.mul_add_mod, Nat.mod_eq_of_lt hb]
    rw [h1, h2]
    exact ⟨rfl, rfl⟩
  · rintro ⟨h1, h2⟩
    have h1 : x / n = a := by omega
    have h2 : x % n = b := by omega
    rw [h1, h2, Nat.mul_comm] at hd
    exact hd.symm
set_option maxRecDepth 100000 in
set_option maxHeartbeats 2000000 in
theorem rTable (N : Nat) (hN : N ≤ 64) (l : Prs) (n : Nat) (hn : l.length = n) (hv : okR N l = true) (M : Nat) (hM : N * N = M) (A : Option Addr) (c : Nat) (w : World) (ha : Rp w A c l) :
    Calls Tryd.prog 52 #[relV N A n c] w fun e w' => ∃ g, e = .returned (.slice (some ⟨g, 0, none⟩) M M) ∧ RowB w' g M (flat N (hasP l)) ∧ w.heap.size ≤ g ∧ Below w.heap.size w w' := by
  have hla := ha.le
  have hca := ha.max
  unfold maxLen at hca
  rw [hn] at hla
  have hM2 : M ≤ 4096 := by have h := Nat.mul_le_mul hN hN; omega
  have hMI : (N : Int) * (N : Int) = (M : Int) := by rw [← hM]; simp
  have hMw : IntKind.i64.wrap ((N : Int) * (N : Int)) = (M : Int) := by rw [hMI, IntKind.wrap_i64]; omega
  have HN := Lib.hid hn; clear hn
  have HV := Lib.hid hv; clear hv
  obtain ⟨W, hW⟩ : ∃ W, w.alloc (.cells #[.int .i64 N, .slice A n c] 24) = W := ⟨_, rfl⟩
  have HB0 : Hid (BoxR W w.heap.size N (.slice A n c)) := by rw [← hW]; exact Lib.hid (BoxR.new w N _)
  have hbW : Below w.heap.size w W := by rw [← hW]; exact belowAlloc w _
  have hzW : W.heap.size = w.heap.size + 1 := by rw [← hW]; simp
  have HA := Lib.hid (ha.below hbW); clear ha
  obtain ⟨c0, c1, _, _⟩ := HB0.out.facts
  have hmk := run_make_row' (P := Tryd.prog) 77 4 (.bool false) 1 Tryd.underlying77 infoBool rfl .i64 .i64 M (by omega) (by omega)
  obtain ⟨X, hX⟩ : ∃ X, W.alloc (.cells (madeCells #[.bool false] M) 4) = X := ⟨_, rfl⟩
  have bX : Below W.heap.size W X := by rw [← hX]; exact belowAlloc _ _
  have hrow : RowB X W.heap.size M (fun _ => false) := by
    have e : (madeCells #[Value.bool false] M).toList = (List.replicate M false).map Value.bool := by rw [List.map_replicate]; exact toList_madeCells_one _ _
    have hs : (madeCells #[Value.bool false] M).size = M := by rw [← Array.length_toList, e]; simp
    refine ⟨by simp [blLen], .inr ⟨W.heap.size, M, _, rfl, Nat.zero_le _, by rw [← hX]; exact heap_alloc_new W _, Nat.le_refl _, by unfold maxLen; omega, by omega, ?_⟩⟩
    rw [List.take_of_length_le (by rw [Array.length_toList]; omega), e, blFalse]
  have HRX := Lib.hid (hrow.congr (F := flat N (tabTo l 0)) fun x _ => by simp [flat, tabTo, memP]); clear hrow
  have HB0 := Lib.hid (HB0.out.below bX)
  have HAW := Lib.hid HA.out
  have HXW := Lib.hid bX
  have HA := Lib.hid (HA.out.below bX)
  have hbX := hbW.trans (bX.mono hbW.size)
  have hzX : X.heap.size = w.heap.size + 2 := by rw [← hX]; simp [hzW]
  clear bX
  go_enter Tryd.func52, Tryd.ntmps52
  go_wp2
  clear hmk c0 c1
  go_loopw [4] (fun v wr => ∃ k : Nat, k ≤ n ∧ v = .int .i64 k ∧ Hid (RowB wr (w.heap.size + 1) M (flat N (tabTo l k))) ∧ Hid (Chg X wr (fun g => g ≠ w.heap.size + 1))) (fun v _ => n - (intOf v).toNat)
  case atStart => exact ⟨0, Nat.zero_le _, rfl, by rw [← hzW]; exact HRX, Lib.hid (Chg.refl _ _)⟩
  case round =>
    obtain ⟨k, hk, rfl, HR, HC⟩ := hrel
    have HBr : Hid (BoxR wr w.heap.size N (.slice A n c)) := Lib.hid ((HC.out.block _ HB0.out.lt (by show w.heap.size ≠ w.heap.size + 1; omega)).trans HB0.out)
    obtain ⟨c0, c1, _, _⟩ := HBr.out.facts
    by_cases hlt : k < n
    · have hkl : k < l.length := by rw [HN.out]; exact hlt
      have hbw : Below W.heap.size W wr := ⟨HC.out.os.trans HXW.out.os, HC.out.tape.trans HXW.out.tape, HC.out.output.trans HXW.out.output, Nat.le_trans HXW.out.size HC.out.size, fun g hg => (HC.out.block g (by omega) (by omega)).trans (HXW.out.block g hg)⟩
      obtain ⟨p, off, rfl, _, h1, h2⟩ := (HAW.out.below hbw).one hkl
      have hin := (okIff.1 HV.out).2.2 _ (List.getElem_mem hkl)
      unfold inR at hin
      obtain ⟨a, ea⟩ : ∃ a : Nat, l[k].1 = (a : Int) := ⟨l[k].1.toNat, by omega⟩
      obtain ⟨b, eb⟩ : ∃ b : Nat, l[k].2 = (b : Int) := ⟨l[k].2.toNat, by omega⟩
      have haN : a < N := by omega
      have hbN : b < N := by omega
      have hlt2 := flatLt haN hbN
      rw [hM] at hlt2
      have HNX := Lib.hid (show ∀ x, x < M → with_ (flat N (tabTo l k)) (a * N + b) x = flat N (tabTo l (k + 1)) x from fun x hx => tabNext hkl ea eb haN hbN (by rw [hM]; exact hx))
      rw [ea] at h1
      rw [eb] at h2
      clear hin ea eb
      obtain ⟨m, hm⟩ : ∃ m, a * N = m := ⟨_, rfl⟩
      rw [hm] at hlt2 HNX
      have hmi : (a : Int) * (N : Int) = (m : Int) := by rw [← hm]; simp
      have hw1 : IntKind.i64.wrap ((a : Int) * (N : Int)) = (m : Int) := by rw [hmi, IntKind.wrap_i64]; omega
      have hw2 : IntKind.i64.wrap ((m : Int) + (b : Int)) = ((m + b : Nat) : Int) := by rw [IntKind.wrap_i64]; omega
      have hw3 : IntKind.i64.wrap (m : Int) = (m : Int) := by rw [IntKind.wrap_i64]; omega
      have hi1 : (0 : Int) ≤ ((m + b : Nat) : Int) := by omega
      have hi2 : ((m + b : Nat) : Int) < (M : Int) := by omega
      have hi3 : (m : Int) + (b : Int) < (M : Int) := by omega
      have hi4 : (0 : Int) ≤ (m : Int) + (b : Int) := by omega
      have hct := HR.out.cell hlt2
      have hfz := HR.out.frozen (m + b)
      go_wp2_with fail
      go_still_tail 18, (by kernel_rfl)
      change wpList _ _ _ _ _ wr.drew
      obtain ⟨V, hV⟩ : ∃ V, wr.drew = V := ⟨_, rfl⟩
      have HRV : Hid (RowB V (w.heap.size + 1) M (flat N (tabTo l k))) := by rw [← hV]; exact Lib.hid HR.out.drew
      have HCV : Hid (Chg X V (fun g => g ≠ w.heap.size + 1)) := by rw [← hV]; exact Lib.hid (HC.out.trans (Chg.drewN wr 1 fun _ => True) fun _ _ _ => trivial)
      have hct := HRV.out.cell hlt2
      have hfz := HRV.out.frozen (m + b)
      have HSV := Lib.hid ((HRV.out.set (m + b)).congr HNX.out)
      have HCW := Lib.hid (HCV.out.trans (Chg.setCell V ⟨w.heap.size + 1, m + b, none⟩ (.bool true)) fun _ _ h => h)
      rw [hV]
      go_wp2
      all_goals exact ⟨⟨k + 1, by omega, by go_num, HSV, HCW⟩, by simp [intOf]; omega⟩
    · obtain rfl : k = n := by omega
      have HFIN := Lib.hid (HR.out.congr (F := flat N (hasP l)) fun x _ => by
        unfold flat tabTo
        rw [List.take_of_length_le (by rw [HN.out]; exact Nat.le_refl _)]
        rfl)
      have hbr : Below w.heap.size w wr := hbX.trans ⟨HC.out.os, HC.out.tape, HC.out.output, HC.out.size, fun g hg => HC.out.block g (by omega) (by omega)⟩
      go_wp2
      go_ret
      exact ⟨_, rfl, HFIN.out, by omega, hbr⟩
end Go.Proofs.YtjioiaeiggjneaaDoor
