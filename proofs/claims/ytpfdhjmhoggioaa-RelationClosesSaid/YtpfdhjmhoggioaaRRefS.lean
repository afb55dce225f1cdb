/-
  The contracts of the reference's distances and Cycle.
-/
import Derived.Test.YtpfdhjmhoggioaaRRefK
import Derived.Test.YtpfdhjmhoggioaaRSt
namespace Go.Proofs.Ytpfdhjmhoggioaa
open Go.RowKit Go.Maps

set_option maxRecDepth 100000 in
set_option maxHeartbeats 4000000 in
theorem rDist (N : Nat) (hN : N ≤ 64) (f : Nat → Nat → Bool) (M : Nat) (hM : N * N = M) (t : Nat) (ht : t < N) (g : Nat) (w : World) (hr : RowB w g M (flat N f)) :
    Calls Try.prog 42 #[.int .i64 N, .slice (some ⟨g, 0, none⟩) M M, .int .i64 t] w (GivesN (fun x => dst N f x t) N w) := by
  have hM2 : M ≤ 4096 := by have h := Nat.mul_le_mul hN hN; omega
  have hgl := hr.lt
  have HT := Lib.hid hr; clear hr
  have hmk := run_make_row' (P := Try.prog) 33 3 (.int .i64 0) 8 Try.underlying33 infoInt rfl .i64 .i64 N (by omega) (by omega)
  go_enter Try.func42, Try.ntmps42
  go_wp2
  obtain ⟨X, hX⟩ : ∃ X, w.alloc (.cells (madeCells #[.int .i64 0] N) 3) = X := ⟨_, rfl⟩
  rw [hX]
  have hro : RowI X w.heap.size N (fun _ => 0) := rowINew (by rw [← hX]; exact heap_alloc_new w _) (by unfold maxLen; omega)
  have HR0 := Lib.hid (hro.congr (T := disTo N f t 1 0) fun x _ => disStart.symm); clear hro
  have bX : Below w.heap.size w X := by rw [← hX]; exact belowAlloc _ _
  have HX := Lib.hid (HT.out.chg (Chg.ofBelow bX fun _ => True) trivial)
  clear hmk hX
  go_loopw [8] (fun v wr => ∃ d : Nat, 0 < d ∧ d ≤ N + 1 ∧ v = .int .i64 d ∧ Hid (RowI wr w.heap.size N (disTo N f t d 0)) ∧ Hid (Chg X wr (fun q => q ≠ w.heap.size))) (fun v _ => N + 1 - (intOf v).toNat)
  case atStart => exact ⟨1, by omega, by omega, rfl, HR0, Lib.hid (Chg.refl _ _)⟩
  case round =>
    clear HR0
    obtain ⟨d, hd0, hd, rfl, HR, HC⟩ := hrel
    by_cases hld : d ≤ N
    · go_wp2
      go_loopw [9] (fun v wr => ∃ a : Nat, a ≤ N ∧ v = .int .i64 a ∧ Hid (RowI wr w.heap.size N (disTo N f t d a)) ∧ Hid (Chg X wr (fun q => q ≠ w.heap.size))) (fun v _ => N - (intOf v).toNat)
      case atStart => exact ⟨0, Nat.zero_le _, rfl, HR, HC⟩
      case round =>
        clear HR HC
        obtain ⟨a, hal, rfl, HR, HC⟩ := hrel
        obtain ⟨wo, hwo⟩ : ∃ x, x = wr := ⟨wr, rfl⟩
        subst hwo
        by_cases hla : a < N
        · obtain ⟨p, hp⟩ : ∃ p, a * N = p := ⟨_, rfl⟩
          have HXR := Lib.hid (HX.out.chg HC.out (show g ≠ w.heap.size by omega))
          go_wp2
          go_loopw [11, 10] (fun v u wr => ∃ b : Nat, b ≤ N ∧ v = .int .i64 b ∧ u = .bool (disAny N f t d a b) ∧ wr = wo) (fun v _ _ => N - (intOf v).toNat)
          case atStart => exact ⟨0, Nat.zero_le _, rfl, by simp [disAny], rfl⟩
          case round =>
            obtain ⟨b, hbl, rfl, rfl, rfl⟩ := hrel
            by_cases hlb : b < N
            · have l1 := flatLt hla hlb
              rw [hM, hp] at l1
              have k1 := HXR.out.at2 hp hlb l1
              obtain ⟨f1, f2, f3, f4, f5, f6, f7⟩ := ixFacts hM2 hp l1
              have hs := disAnySucc (n := N) (f := f) (t := t) (d := d) (a := a) (k := b)
              unfold disHit at hs
              obtain ⟨q, hq⟩ : ∃ q, disAny N f t d a b = q := ⟨_, rfl⟩
              obtain ⟨q', hq'⟩ : ∃ q, disAny N f t d a (b + 1) = q := ⟨_, rfl⟩
              rw [hq, hq'] at hs
              have k2 := HR.out.cell hlb
              obtain ⟨S, hS⟩ : ∃ S, disTo N f t d a b = S := ⟨_, rfl⟩
              rw [hS] at k2 hs
              have hw1 : IntKind.i64.wrap ((d : Int) - 1) = (d : Int) - 1 := by rw [IntKind.wrap_i64]; omega
              rw [hq]
              have HQ := Lib.hid hq'
              clear hq hq' hS
              obtain ⟨fv, hfv⟩ : ∃ fv, f a b = fv := ⟨_, rfl⟩
              rw [hfv] at k1 hs
              clear hfv
              have HEND : ∀ z, z = q' → Hid (Value.bool z = .bool (disAny N f t d a (b + 1))) := fun z e => Lib.hid (by rw [HQ.out, e])
              cases fv
              · have hz : q = q' := by rw [hs]; simp
                have HE := HEND q hz
                clear hs hz
                go_wp2
                all_goals exact ⟨⟨b + 1, by omega, by go_num, HE.out, by first | trivial | rfl⟩, by simp [intOf]; omega⟩
              · by_cases hd1 : d = 1
                · have qd : ((d : Int) == 1) = true := by simp; omega
                  have qg : decide ((d : Int) > 1) = false := by simp; omega
                  by_cases hbt : b = t
                  · have hz : true = q' := by rw [hs, decide_eq_true hd1, decide_eq_true hbt]; simp
                    have HE := HEND true hz
                    clear hs hz
                    subst hbt
                    have qb : ((b : Int) == (b : Int)) = true := by simp
                    go_wp2
                    all_goals exact ⟨⟨b + 1, by omega, by go_num, HE.out, by first | trivial | rfl⟩, by simp [intOf]; omega⟩
                  · have qb : ((b : Int) == (t : Int)) = false := by simp; omega
                    have hz : q = q' := by rw [hs, decide_eq_true hd1, decide_eq_false hbt, decide_eq_false (show ¬ 1 < d by omega)]; simp
                    have HE := HEND q hz
                    clear hs hz
                    go_wp2
                    all_goals exact ⟨⟨b + 1, by omega, by go_num, HE.out, by first | trivial | rfl⟩, by simp [intOf]; omega⟩
                · have qd : ((d : Int) == 1) = false := by simp; omega
                  have qg : decide ((d : Int) > 1) = true := by simp; omega
                  by_cases hse : S = d - 1
                  · have qs : ((S : Int) == (d : Int) - 1) = true := by simp; omega
                    have hz : true = q' := by rw [hs, decide_eq_true hse, decide_eq_true (show 1 < d by omega)]; simp
                    have HE := HEND true hz
                    clear hs hz
                    go_wp2
                    all_goals exact ⟨⟨b + 1, by omega, by go_num, HE.out, by first | trivial | rfl⟩, by simp [intOf]; omega⟩
                  · have qs : ((S : Int) == (d : Int) - 1) = false := by simp; omega
                    have hz : q = q' := by rw [hs, decide_eq_false hse, decide_eq_false hd1]; simp
                    have HE := HEND q hz
                    clear hs hz
                    go_wp2
                    all_goals exact ⟨⟨b + 1, by omega, by go_num, HE.out, by first | trivial | rfl⟩, by simp [intOf]; omega⟩
            · obtain rfl : b = N := by omega
              have k2 := HR.out.cell hla
              have hfz := HR.out.frozen a
              cases hq : disAny b f t d a b with
              | false =>
                have HZ := Lib.hid (HR.out.congr fun x _ => disKeep hd0 ht (.inr hq) x)
                clear hq
                go_wp2
                all_goals exact ⟨⟨a + 1, by omega, by go_num, HZ, HC⟩, by simp [intOf]; omega⟩
              | true =>
                by_cases h0 : disTo b f t d a a = 0
                · have HZ := Lib.hid ((HR.out.set a d).congr fun x _ => disSet hd0 ht h0 hq x)
                  have HC2 := Lib.hid (HC.out.trans (Chg.setCell wr ⟨w.heap.size, a, none⟩ (.int .i64 d)) fun _ _ h => h)
                  rw [h0] at k2
                  clear hq h0
                  go_wp2
                  all_goals exact ⟨⟨a + 1, by omega, by go_num, HZ, HC2⟩, by simp [intOf]; omega⟩
                · have HZ := Lib.hid (HR.out.congr fun x _ => disKeep hd0 ht (.inl h0) x)
                  obtain ⟨S, hS⟩ : ∃ S, disTo b f t d a a = S := ⟨_, rfl⟩
                  rw [hS] at k2 h0
                  have qs : ((S : Int) == 0) = false := by simp; omega
                  clear hq hS
                  go_wp2
                  all_goals exact ⟨⟨a + 1, by omega, by go_num, HZ, HC⟩, by simp [intOf]; omega⟩
        · obtain rfl : a = N := by omega
          have HZ := Lib.hid (HR.out.congr fun x hx => disRow hx)
          go_wp2
          all_goals exact ⟨⟨d + 1, by omega, by omega, by go_num, HZ, HC⟩, by simp [intOf]; omega⟩
    · obtain rfl : d = N + 1 := by omega
      have HZ := Lib.hid (HR.out.congr (T := fun x => dst N f x t) fun x hx => disEnd hx)
      have bC : Below w.heap.size w wr := ⟨HC.out.os.trans bX.os, HC.out.tape.trans bX.tape, HC.out.output.trans bX.output, Nat.le_trans bX.size HC.out.size, fun q hq => (HC.out.block q (Nat.lt_of_lt_of_le hq bX.size) (by omega)).trans (bX.block q hq)⟩
      go_wp2
      go_ret
      exact ⟨_, rfl, HZ.out, Nat.le_refl _, bC⟩
end Go.Proofs.Ytpfdhjmhoggioaa
