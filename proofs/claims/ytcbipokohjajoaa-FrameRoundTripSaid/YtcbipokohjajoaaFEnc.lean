/-
  The contracts of encode, unsigned, signed: what the program's integers are encoded as.
-/
import Derived.Test.YtcbipokohjajoaaBy
import Derived.Test.YtcbipokohjajoaaFrmM
import Derived.Outline
import Derived.LoopTactic
import Derived.WalkKit
import Derived.Lib.Hide
import Derived.Laws.BitsAllLaws
namespace Go.Proofs.Ytcbipokohjajoaa
open Go.RowKit

theorem byteOf {m : Nat} (h : m < 256) : (m : Int) = ((UInt8.ofNat m).toNat : Int) := by
  rw [UInt8.toNat_ofNat', Nat.mod_eq_of_lt h]
theorem byteGe (m : Nat) : (m : Int) % 128 + 128 = ((UInt8.ofNat (m % 128 + 128)).toNat : Int) := by
  rw [← byteOf (by omega)]; omega
theorem encGeApp {m : Nat} {p r : List UInt8} (h : p ++ encL m = r) (hm : ¬ m < 128) : (p ++ [UInt8.ofNat (m % 128 + 128)]) ++ encL (m / 128) = r := by
  rw [← h, encGe hm]; simp
theorem encLtApp {m : Nat} {p r : List UInt8} (h : p ++ encL m = r) (hm : m < 128) : p ++ [UInt8.ofNat m] = r := by
  rw [← h, encLt hm]
theorem run_make9 (w : World) : (Instr.makeSlice 22 (.int .i64 0) (.int .i64 9)).run Try.prog w = .ok (.slice (some ⟨w.heap.size, 0, none⟩) 0 9) (w.alloc (.cells #[.int .u8 0, .int .u8 0, .int .u8 0, .int .u8 0, .int .u8 0, .int .u8 0, .int .u8 0, .int .u8 0, .int .u8 0] 5)) := by kernel_rfl
theorem OwnB.make9 (w : World) (base : Nat) (h : base ≤ w.heap.size) : OwnB (w.alloc (.cells #[.int .u8 0, .int .u8 0, .int .u8 0, .int .u8 0, .int .u8 0, .int .u8 0, .int .u8 0, .int .u8 0, .int .u8 0] 5)) base (.slice (some ⟨w.heap.size, 0, none⟩) 0 9) [] :=
  World.ownsRow_made (e := 5) w (base := base) (size := 1) #[.int .u8 0, .int .u8 0, .int .u8 0, .int .u8 0, .int .u8 0, .int .u8 0, .int .u8 0, .int .u8 0, .int .u8 0] 9 h (by decide) rfl

/-- encode of an integer out of range. -/
theorem iEncNo (n : Int) (h : n < 0 ∨ 4611686018427387904 < n) (w : World) : Calls Try.prog 38 #[.int .i64 n] w fun e w' => e = .returned (.slice none 0 0) ∧ w = w' := by
  rcases h with h | h
  · go_enter Try.func38, Try.ntmps38
    go_wp2
    go_ret
    exact ⟨rfl, rfl⟩
  · have h2 : ¬ n < 0 := by omega
    go_enter Try.func38, Try.ntmps38
    go_wp2
    go_ret
    exact ⟨rfl, rfl⟩
set_option maxRecDepth 100000 in
set_option maxHeartbeats 400000 in
/-- encode of an integer in range. -/
theorem iEnc (n : Nat) (h : n ≤ 4611686018427387904) (w : World) : Calls Try.prog 38 #[.int .i64 n] w (GivesO (encL n) w) := by
  have h0 : ¬ (n : Int) < 0 := by omega
  have h1 : ¬ (n : Int) > 4611686018427387904 := by omega
  have hl := encLen n 9 (by omega) (by omega)
  obtain ⟨r, hr⟩ : ∃ r, encL n = r := ⟨_, rfl⟩
  rw [hr] at hl ⊢
  have HR := Lib.hid hr; clear hr
  have hmk := run_make9
  have hO := Lib.hid (OwnB.make9 w w.heap.size (Nat.le_refl _))
  go_enter Try.func38, Try.ntmps38
  go_wp2
  go_loopw [0, 3] (fun n vo wr => ∃ (m : Nat) (p : List UInt8), n = .int .i64 m ∧ m ≤ 4611686018427387904 ∧ p.length ≤ 9 ∧ Hid (p ++ encL m = r) ∧ OwnB wr w.heap.size vo p ∧ Below w.heap.size w wr) (fun n _ _ => (intOf n).toNat)
  case atStart => exact ⟨n, [], rfl, h, by simp, by simpa using HR, hO.out, belowAlloc _ _⟩
  case round =>
    clear hO HR
    obtain ⟨m, p, rfl, hm, hp, HP, os, hb⟩ := hrel
    have hz := hb.size
    have hpl : p.length + (encL m).length ≤ 9 := by have := congrArg List.length HP.out; rw [List.length_append] at this; omega
    have hpos := encPos m
    by_cases hlt : m < 128
    · have HX := Lib.hid (encLtApp HP.out hlt)
      have HB := Lib.hid (byteOf (m := m) (by omega))
      have HO := Lib.hid os; clear os
      go_wp2_with (at_builtin; refine appB _ rfl (.tmp 22) (.tmp 25) rfl w.heap.size _ p rfl (HO.out.alloc _) (some ⟨wr.heap.size, 0, none⟩) 1 1 [UInt8.ofNat m] rfl rfl (Rb.lit1 _ _ _ HB.out _) (by simp; omega) (by simp; omega) ?_; intro v2 w2 o2 b2)
      rw [HX.out] at o2
      go_ret
      exact GivesO.of o2 ((hb.alloc hz _).trans b2)
    · have HX := Lib.hid (encGeApp HP.out hlt)
      have HB := Lib.hid (byteGe m)
      have hgl : (encL m).length = (encL (m / 128)).length + 1 := by rw [encGe hlt]; simp
      have HO := Lib.hid os; clear os
      go_wp2_with (at_builtin; refine appB _ rfl (.tmp 13) (.tmp 18) rfl w.heap.size _ p rfl (HO.out.alloc _) (some ⟨wr.heap.size, 0, none⟩) 1 1 [UInt8.ofNat (m % 128 + 128)] rfl rfl (Rb.lit1 _ _ _ HB.out _) (by simp; omega) (by simp; omega) ?_; intro v2 w2 o2 b2)
      go_roundw
      case rel => exact ⟨m / 128, _, by go_num, by omega, by rw [List.length_append]; simp; omega, HX, o2, (hb.alloc hz _).trans b2⟩
      case measure => simp [intOf]; omega

theorem uns1 {n : Int} (h1 : -9223372036854775808 ≤ n) (h : n < 0) : (fitS n = true → wrap64 (wrap64 (-2 * n) - 1) = zig n) ∧ (fitS n = false → wrap64 (wrap64 (-2 * n) - 1) < 0 ∨ 4611686018427387904 < wrap64 (wrap64 (-2 * n) - 1)) := by
  unfold fitS zig wrap64
  simp only [decide_eq_true_iff, decide_eq_false_iff_not]
  omega
theorem uns2 {n : Int} (h : 0 ≤ n) (h2 : n ≤ 9223372036854775807) : (fitS n = true → wrap64 (2 * n) = zig n) ∧ (fitS n = false → wrap64 (2 * n) < 0 ∨ 4611686018427387904 < wrap64 (2 * n)) := by
  unfold fitS zig wrap64
  simp only [decide_eq_true_iff, decide_eq_false_iff_not]
  omega
theorem iUns (n : Int) (h1 : -9223372036854775808 ≤ n) (h2 : n ≤ 9223372036854775807) (w : World) : Calls Try.prog 39 #[.int .i64 n] w fun e w' => (∃ u : Int, e = .returned (.int .i64 u) ∧ (fitS n = true → u = zig n) ∧ (fitS n = false → u < 0 ∨ 4611686018427387904 < u)) ∧ w = w' := by
  by_cases hn : n < 0
  · go_enter Try.func39, Try.ntmps39
    go_wp2
    go_ret
    exact ⟨⟨_, rfl, uns1 h1 hn⟩, rfl⟩
  · go_enter Try.func39, Try.ntmps39
    go_wp2
    go_ret
    exact ⟨⟨_, rfl, uns2 hn h2⟩, rfl⟩
theorem iSig (n : Nat) (h : n ≤ 4611686018427387904) (w : World) : Calls Try.prog 37 #[.int .i64 n] w fun e w' => e = .returned (.int .i64 (sgn n)) ∧ w = w' := by
  by_cases hn : n % 2 = 1
  · have hq : ((n : Int) % 2 == 1) = true := by simp; omega
    have HX := Lib.hid (show -((n : Int) / 2) - 1 = sgn n by unfold sgn; rw [if_pos hn]; omega)
    go_enter Try.func37, Try.ntmps37
    go_wp2
    go_ret
    exact ⟨retInt HX.out, rfl⟩
  · have hq : ((n : Int) % 2 == 1) = false := by simp; omega
    have HX := Lib.hid (show ((n : Int) / 2) = sgn n by unfold sgn; rw [if_neg hn]; omega)
    go_enter Try.func37, Try.ntmps37
    go_wp2
    go_ret
    exact ⟨retInt HX.out, rfl⟩
end Go.Proofs.Ytcbipokohjajoaa
