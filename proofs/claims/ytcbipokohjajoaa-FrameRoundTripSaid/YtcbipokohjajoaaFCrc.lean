/-
  The contracts of the two checksums and of the bytes of a checksum.
-/
import Derived.Test.YtcbipokohjajoaaFCut
import Derived.Test.YtcbipokohjajoaaFrmC
import Derived.Outline
import Derived.LoopTactic
import Derived.WalkKit
import Derived.Lib.Hide
import Derived.Laws.BitsAllLaws
namespace Go.Proofs.Ytcbipokohjajoaa
open Go.RowKit

theorem tnSnoc (k r : Nat) : tN (k + 1) r = tC (tN k r) := by rw [tnAdd k 1]; rfl
theorem andOne {q : Nat} (h : q < 4294967296) : bits .and .u32 (q : Int) 1 = ((q % 2 : Nat) : Int) := by
  rw [show (1 : Int) = ((1 : Nat) : Int) from rfl, u32_and_nat q 1 h (by omega), Nat.and_one_is_mod]
theorem stepOdd {q : Nat} (h : q < 4294967296) (ho : q % 2 = 1) : bits .xor .u32 ((q : Int) / 2) 3988292384 = ((tC q : Nat) : Int) := by
  rw [show ((q : Int) / 2) = ((q / 2 : Nat) : Int) by simp, show (3988292384 : Int) = ((3988292384 : Nat) : Int) from rfl, u32_xor_nat _ _ (by omega) (by omega)]
  unfold tC; rw [if_pos ho]
theorem stepEven {q : Nat} (ho : q % 2 = 0) : ((q : Int) / 2) = ((tC q : Nat) : Int) := by
  unfold tC; rw [if_neg (by omega), Nat.xor_zero]; simp
theorem retW {a b : Int} (h : a = b) : Ending.returned (.int .u32 a) = .returned (.int .u32 b) := by rw [h]
theorem regNext {l : List UInt8} {k r0 r : Nat} {x : UInt8} (hk : k < l.length) (hx : l[k] = x) (hr : reg r0 (l.take k) = r) : reg r0 (l.take (k + 1)) = tN 8 (r ^^^ x.toNat) := by
  rw [List.take_succ_eq_append_getElem hk, regSnoc, hr, hx]
theorem notEq {l : List UInt8} {r : Nat} (hr : r < 4294967296) (h : reg 4294967295 l = r) : bits .xor .u32 IntKind.u32.max (r : Int) = ((crc l : Nat) : Int) := by
  show bits .xor .u32 ((4294967295 : Nat) : Int) (r : Int) = _
  rw [u32_xor_nat _ _ (by omega) hr, Nat.xor_comm]
  unfold crc
  rw [h]
theorem notEq2 {l : List UInt8} {r : Nat} (hr : r < 4294967296) (h : reg 4294967295 l = r) : bits .xor .u32 (r : Int) 4294967295 = ((crc l : Nat) : Int) := by
  rw [show (4294967295 : Int) = ((4294967295 : Nat) : Int) from rfl, u32_xor_nat _ _ hr (by omega)]
  unfold crc
  rw [h]
set_option maxRecDepth 100000 in
set_option maxHeartbeats 1000000 in
theorem iSum (l : List UInt8) (n : Nat) (hn : l.length = n) (A : Option Addr) (c : Nat) (w : World) (ha : Rb w A c l) :
    Calls Try.prog 31 #[.slice A n c] w fun e w' => e = .returned (.int .u32 (crc l)) ∧ w = w' := by
  have hle := ha.le
  have hmax := ha.max
  unfold maxLen at hmax
  rw [hn] at hle
  have HN := Lib.hid hn; clear hn
  have HA := Lib.hid ha; clear ha
  go_enter Try.func31, Try.ntmps31
  go_wp2
  go_loop [3, 9] (fun vr vi => ∃ k r : Nat, k ≤ n ∧ r < 4294967296 ∧ vi = .int .i64 k ∧ vr = .int .u32 r ∧ Hid (reg 4294967295 (l.take k) = r)) (fun _ vi => n - (intOf vi).toNat)
  case atStart => exact ⟨0, 4294967295, Nat.zero_le _, by omega, rfl, rfl, Lib.hid (by simp [reg])⟩
  case round =>
    obtain ⟨k, r, hk, hr, rfl, rfl, HR⟩ := hrel
    by_cases hlt : k < n
    · have hkl : k < l.length := by have := HN.out; omega
      obtain ⟨ad, rfl, hbl, hcw⟩ := HA.out.one hkl
      obtain ⟨x, hx⟩ : ∃ x, l[k] = x := ⟨_, rfl⟩
      have HX := regNext hkl hx HR.out
      rw [hx] at hcw
      have hxlt := UInt8.toNat_lt x
      clear hx
      obtain ⟨y, hy⟩ : ∃ y, x.toNat = y := ⟨_, rfl⟩
      rw [hy] at hcw hxlt HX
      clear hy
      obtain ⟨X, hX⟩ : ∃ X, r ^^^ y = X := ⟨_, rfl⟩
      rw [hX] at HX
      have hXl : X < 4294967296 := by rw [← hX]; exact Nat.xor_lt_two_pow (n := 32) hr (by omega)
      have hxor : bits .xor .u32 (r : Int) (y : Int) = (X : Int) := by rw [u32_xor_nat r y hr (by omega), hX]
      have HX2 := Lib.hid HX
      clear HX hX
      go_wp2
      obtain ⟨k0, hk0⟩ : ∃ k0, k0 = k := ⟨_, rfl⟩
      go_loop [3, 17] (fun vr vi => ∃ j q : Nat, j ≤ 8 ∧ q < 4294967296 ∧ vi = .int .i64 j ∧ vr = .int .u32 q ∧ Hid (tN j X = q)) (fun _ vi => 8 - (intOf vi).toNat)
      case atStart => exact ⟨0, X, Nat.zero_le _, hXl, rfl, rfl, Lib.hid rfl⟩
      case round =>
        obtain ⟨j, q, hj, hq, rfl, rfl, HQ⟩ := hrel
        by_cases hj8 : j < 8
        · have HS := Lib.hid (show tN (j + 1) X = tC q by rw [tnSnoc, HQ.out])
          have hql := tLt hq
          by_cases ho : q % 2 = 1
          · have ha1 : bits .and .u32 (q : Int) 1 = 1 := by rw [andOne hq, ho]; rfl
            have hs1 := stepOdd hq ho
            go_wp2
            go_round
            case rel => exact ⟨j + 1, tC q, by omega, hql, by go_num, rfl, HS⟩
            case measure => simp [intOf]; omega
          · have ha1 : bits .and .u32 (q : Int) 1 = 0 := by rw [andOne hq, show q % 2 = 0 by omega]; rfl
            have hs1 := Lib.hid (stepEven (q := q) (by omega))
            go_wp2
            go_round
            case rel => exact ⟨j + 1, tC q, by omega, hql, by go_num, by rw [hs1.out], HS⟩
            case measure => simp [intOf]; omega
        · have h8 : j = 8 := by omega
          have HS := Lib.hid (show reg 4294967295 (l.take (k + 1)) = q by rw [HX2.out, ← HQ.out, h8])
          clear h8
          go_wp2
          go_round
          case rel => exact ⟨k + 1, q, by omega, hq, by go_num, rfl, HS⟩
          case measure => simp [intOf]; omega
    · have HS := Lib.hid (show reg 4294967295 l = r by have := HR.out; rwa [List.take_of_length_le (by have := HN.out; omega)] at this)
      have HX := Lib.hid (notEq hr HS.out)
      go_wp2
      go_ret
      exact ⟨retW HX.out, rfl⟩
set_option maxRecDepth 100000 in
set_option maxHeartbeats 1000000 in
theorem rSum (l : List UInt8) (n : Nat) (hn : l.length = n) (A : Option Addr) (c : Nat) (w : World) (ha : Rb w A c l) :
    Calls Try.prog 32 #[.slice A n c] w fun e w' => e = .returned (.int .u32 (crc l)) ∧ w = w' := by
  have hle := ha.le
  have hmax := ha.max
  unfold maxLen at hmax
  rw [hn] at hle
  have HN := Lib.hid hn; clear hn
  have HA := Lib.hid ha; clear ha
  go_enter Try.func32, Try.ntmps32
  go_wp2
  go_loop [3, 4] (fun vr vi => ∃ k r : Nat, k ≤ n ∧ r < 4294967296 ∧ vi = .int .i64 k ∧ vr = .int .u32 r ∧ Hid (reg 4294967295 (l.take k) = r)) (fun _ vi => n - (intOf vi).toNat)
  case atStart => exact ⟨0, 4294967295, Nat.zero_le _, by omega, rfl, rfl, Lib.hid (by simp [reg])⟩
  case round =>
    obtain ⟨k, r, hk, hr, rfl, rfl, HR⟩ := hrel
    by_cases hlt : k < n
    · have hkl : k < l.length := by have := HN.out; omega
      obtain ⟨ad, rfl, hbl, hcw⟩ := HA.out.one hkl
      obtain ⟨x, hx⟩ : ∃ x, l[k] = x := ⟨_, rfl⟩
      have HX := regNext hkl hx HR.out
      rw [hx] at hcw
      have hxlt := UInt8.toNat_lt x
      clear hx
      obtain ⟨y, hy⟩ : ∃ y, x.toNat = y := ⟨_, rfl⟩
      rw [hy] at hcw hxlt HX
      clear hy
      obtain ⟨X, hX⟩ : ∃ X, r ^^^ y = X := ⟨_, rfl⟩
      rw [hX] at HX
      have hXl : X < 4294967296 := by rw [← hX]; exact Nat.xor_lt_two_pow (n := 32) hr (by omega)
      have hxor : bits .xor .u32 (r : Int) (y : Int) = (X : Int) := by rw [u32_xor_nat r y hr (by omega), hX]
      have HX2 := Lib.hid HX
      clear HX hX
      go_wp2
      go_loop [3, 5] (fun vr vi => ∃ j q : Nat, j ≤ 8 ∧ q < 4294967296 ∧ vi = .int .i64 j ∧ vr = .int .u32 q ∧ Hid (tN j X = q)) (fun _ vi => 8 - (intOf vi).toNat)
      case atStart => exact ⟨0, X, Nat.zero_le _, hXl, rfl, rfl, Lib.hid rfl⟩
      case round =>
        obtain ⟨j, q, hj, hq, rfl, rfl, HQ⟩ := hrel
        by_cases hj8 : j < 8
        · have HS := Lib.hid (show tN (j + 1) X = tC q by rw [tnSnoc, HQ.out])
          have hql := tLt hq
          by_cases ho : q % 2 = 1
          · have ha1 : ((q : Int) % 2 == 1) = true := by simp; omega
            have hs1 := stepOdd hq ho
            have HO := Lib.hid ho; clear ho
            go_wp2
            go_round
            case rel => exact ⟨j + 1, tC q, by omega, hql, by go_num, rfl, HS⟩
            case measure => simp [intOf]; omega
          · have ha1 : ((q : Int) % 2 == 1) = false := by simp; omega
            have hs1 := Lib.hid (stepEven (q := q) (by omega))
            have HO := Lib.hid ho; clear ho
            go_wp2
            go_round
            case rel => exact ⟨j + 1, tC q, by omega, hql, by go_num, by rw [hs1.out], HS⟩
            case measure => simp [intOf]; omega
        · have h8 : j = 8 := by omega
          have HS := Lib.hid (show reg 4294967295 (l.take (k + 1)) = q by rw [HX2.out, ← HQ.out, h8])
          clear h8
          go_wp2
          go_round
          case rel => exact ⟨k + 1, q, by omega, hq, by go_num, rfl, HS⟩
          case measure => simp [intOf]; omega
    · have HS := Lib.hid (show reg 4294967295 l = r by have := HR.out; rwa [List.take_of_length_le (by have := HN.out; omega)] at this)
      have HX := Lib.hid (notEq2 hr HS.out)
      go_wp2
      go_ret
      exact ⟨retW HX.out, rfl⟩
/-- The bytes of a number just laid. -/
theorem sumLaid (w : World) (s : Nat) (a b c d : Int) (ha : a = ((UInt8.ofNat s).toNat : Int)) (hb : b = ((UInt8.ofNat (s / 256)).toNat : Int)) (hc : c = ((UInt8.ofNat (s / 65536)).toNat : Int)) (hd : d = ((UInt8.ofNat (s / 16777216)).toNat : Int)) :
    GivesO (sumB s) w (.returned (.slice (some ⟨w.heap.size, 0, none⟩) 4 4)) (w.alloc (.cells #[.int .u8 a, .int .u8 b, .int .u8 c, .int .u8 d] 5)) := by
  subst ha hb hc hd
  refine ⟨_, 4, 4, rfl, Lib.hid rfl, ⟨rfl, .inr ⟨w.heap.size, 4, _, rfl, Nat.le_refl _, heap_alloc_new w _, (show 4 ≤ 4 by omega), (show 4 ≤ maxLen by decide), rfl, rfl⟩⟩, belowAlloc w _⟩
set_option maxRecDepth 100000 in
theorem rSumB (s : Nat) (h : s < 4294967296) (w : World) : Calls Try.prog 44 #[.int .u32 s] w (GivesO (sumB s) w) := by
  have HX := Lib.hid (sumLaid w s)
  go_enter Try.func44, Try.ntmps44
  go_wp2
  go_ret
  refine HX.out _ _ _ _ ?_ ?_ ?_ ?_
  all_goals (rw [UInt8.toNat_ofNat']; omega)
set_option maxRecDepth 100000 in
theorem iSumOf (l : List UInt8) (n : Nat) (hn : l.length = n) (A : Option Addr) (c : Nat) (w : World) (ha : Rb w A c l) :
    Calls Try.prog 43 #[.slice A n c] w (GivesO (sumB (crc l)) w) := by
  have HC := Lib.hid (iSum l n hn A c w ha); clear ha hn
  have hl := crcLt l
  obtain ⟨s, hs⟩ : ∃ s, crc l = s := ⟨_, rfl⟩
  rw [hs] at HC hl ⊢
  clear hs
  have HX := Lib.hid (sumLaid w s)
  go_enter Try.func43, Try.ntmps43
  go_wp2_with fail
  refine HC.out.mono ?_
  rintro e w0 ⟨rfl, rfl⟩
  go_wp2
  go_ret
  refine HX.out _ _ _ _ ?_ ?_ ?_ ?_
  all_goals (rw [UInt8.toNat_ofNat']; omega)
end Go.Proofs.Ytcbipokohjajoaa
