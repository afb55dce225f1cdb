/-
  The contracts of the reference's AppendUint, Uint, AppendInt, Int.
-/
import Derived.Test.YtcbipokohjajoaaFApp
namespace Go.Proofs.Ytcbipokohjajoaa
open Go.RowKit

set_option maxRecDepth 100000 in
set_option maxHeartbeats 1000000 in
theorem rAppU (l : List UInt8) (n : Nat) (hn : l.length = n) (hs : n ≤ 300000) (k : Int) (A : Option Addr) (c : Nat) (w : World) (ha : Rb w A c l) :
    Calls Try.prog 17 #[.slice A n c, .int .i64 k] w (GivesO (l ++ encU k) w) := by
  have HA := Lib.hid ha; clear ha
  have HN := Lib.hid hn; clear hn
  have hq := encULen k
  by_cases hk : 0 ≤ k ∧ k ≤ 4611686018427387904
  · obtain ⟨m, rfl⟩ := Int.eq_ofNat_of_zero_le hk.1
    have hm : m ≤ 4611686018427387904 := by omega
    rw [encUNat hm] at hq ⊢
    have h0 : ¬ (m : Int) < 0 := by omega
    have h1 : ¬ (m : Int) > 4611686018427387904 := by omega
    obtain ⟨r, hr⟩ : ∃ r, encL m = r := ⟨_, rfl⟩
    rw [hr] at hq ⊢
    have HR := Lib.hid hr; clear hr hk
    go_enter Try.func17, Try.ntmps17
    go_wp2_with (at_builtin; refine appB _ rfl (.tmp 6) (.tmp 7) rfl w.heap.size _ [] rfl (OwnB.made w w.heap.size (Nat.le_refl _)) A n c l rfl HN.out.symm (HA.out.alloc _) (by have := HN.out; simp; omega) (by simp) ?_; intro v2 w2 o2 b2)
    rw [List.nil_append] at o2
    have B2 := Lib.hid (((Below.refl _ w).alloc (Nat.le_refl _) _).trans b2); clear b2
    have O2 := Lib.hid o2; clear o2
    go_loopw [1, 5] (fun n vo wr => ∃ (j : Nat) (p : List UInt8), n = .int .i64 j ∧ j ≤ 4611686018427387904 ∧ p.length ≤ 9 ∧ Hid (p ++ encL j = r) ∧ OwnB wr w.heap.size vo (l ++ p) ∧ Below w.heap.size w wr) (fun n _ _ => (intOf n).toNat)
    case atStart => exact ⟨m, [], rfl, hm, by simp, by simpa using HR, by simpa using O2.out, B2.out⟩
    case round =>
      clear O2 HR
      obtain ⟨j, p, rfl, hj, hp, HP, os, hb⟩ := hrel
      have hz := hb.size
      have hpl : p.length + (encL j).length ≤ 9 := by have := congrArg List.length HP.out; rw [List.length_append] at this; omega
      have hpos := encPos j
      have hll : (l ++ p).length = n + p.length := by rw [List.length_append, HN.out]
      by_cases hlt : j < 128
      · have HX := Lib.hid (encLtApp HP.out hlt)
        have HB := Lib.hid (byteOf (m := j) (by omega))
        have HO := Lib.hid os; clear os
        have HLL := Lib.hid hll; clear hll
        go_wp2_with (at_builtin; refine appB _ rfl (.tmp 27) (.tmp 30) rfl w.heap.size _ (l ++ p) rfl (HO.out.alloc _) (some ⟨wr.heap.size, 0, none⟩) 1 1 [UInt8.ofNat j] rfl rfl (Rb.lit1 _ _ _ HB.out _) (by rw [HLL.out]; simp; omega) (by simp; omega) ?_; intro v2 w2 o2 b2)
        rw [List.append_assoc, HX.out] at o2
        go_ret
        exact GivesO.of o2 ((hb.alloc hz _).trans b2)
      · have HX := Lib.hid (encGeApp HP.out hlt)
        have HB := Lib.hid (byteGe j)
        have hgl : (encL j).length = (encL (j / 128)).length + 1 := by rw [encGe hlt]; simp
        have HGL := Lib.hid hgl; clear hgl
        have HO := Lib.hid os; clear os
        have HLL := Lib.hid hll; clear hll
        go_wp2_with (at_builtin; refine appB _ rfl (.tmp 18) (.tmp 23) rfl w.heap.size _ (l ++ p) rfl (HO.out.alloc _) (some ⟨wr.heap.size, 0, none⟩) 1 1 [UInt8.ofNat (j % 128 + 128)] rfl rfl (Rb.lit1 _ _ _ HB.out _) (by rw [HLL.out]; simp; omega) (by simp; omega) ?_; intro v2 w2 o2 b2)
        rw [List.append_assoc] at o2
        go_roundw
        case rel => exact ⟨j / 128, _, by go_num, by omega, by have := HGL.out; rw [List.length_append]; simp; omega, HX, o2, (hb.alloc hz _).trans b2⟩
        case measure => simp [intOf]; omega
  · have e : encU k = [] := by unfold encU; rw [if_neg hk]
    rw [e, List.append_nil]
    by_cases h0 : k < 0
    · go_enter Try.func17, Try.ntmps17
      go_wp2_with (at_builtin; refine appB _ rfl (.tmp 6) (.tmp 7) rfl w.heap.size _ [] rfl (OwnB.made w w.heap.size (Nat.le_refl _)) A n c l rfl HN.out.symm (HA.out.alloc _) (by have := HN.out; simp; omega) (by simp) ?_; intro v2 w2 o2 b2)
      rw [List.nil_append] at o2
      go_ret
      exact GivesO.of o2 (((Below.refl _ w).alloc (Nat.le_refl _) _).trans b2)
    · have h1 : k > 4611686018427387904 := by omega
      go_enter Try.func17, Try.ntmps17
      go_wp2_with (at_builtin; refine appB _ rfl (.tmp 6) (.tmp 7) rfl w.heap.size _ [] rfl (OwnB.made w w.heap.size (Nat.le_refl _)) A n c l rfl HN.out.symm (HA.out.alloc _) (by have := HN.out; simp; omega) (by simp) ?_; intro v2 w2 o2 b2)
      rw [List.nil_append] at o2
      go_ret
      exact GivesO.of o2 (((Below.refl _ w).alloc (Nat.le_refl _) _).trans b2)
theorem rFits (n : Int) (r : Bool) (hr : fitS n = r) (w : World) : Calls Try.prog 40 #[.int .i64 n] w fun e w' => e = .returned (.bool r) ∧ w = w' := by
  by_cases h1 : -2305843009213693952 ≤ n
  · by_cases h2 : n ≤ 2305843009213693952
    · have HX := Lib.hid (show true = r by rw [← hr]; unfold fitS; rw [decide_eq_true ⟨h1, h2⟩])
      clear hr
      go_enter Try.func40, Try.ntmps40
      go_wp2
      go_ret
      exact ⟨retB HX.out, rfl⟩
    · have HX := Lib.hid (show false = r by rw [← hr]; unfold fitS; rw [decide_eq_false (fun h => h2 h.2)])
      clear hr
      go_enter Try.func40, Try.ntmps40
      go_wp2
      go_ret
      exact ⟨retB HX.out, rfl⟩
  · have HX := Lib.hid (show false = r by rw [← hr]; unfold fitS; rw [decide_eq_false (fun h => h1 h.1)])
    clear hr
    have h1' : decide (n ≥ -2305843009213693952) = false := by simp; omega
    go_enter Try.func40, Try.ntmps40
    go_wp2
    go_ret
    exact ⟨retB HX.out, rfl⟩
theorem rAppI (l : List UInt8) (n : Nat) (hn : l.length = n) (hs : n ≤ 300000) (k : Int) (A : Option Addr) (c : Nat) (w : World) (ha : Rb w A c l) :
    Calls Try.prog 19 #[.slice A n c, .int .i64 k] w (GivesO (l ++ encS k) w) := by
  by_cases hf : fitS k = true
  · have hz := zigFit hf
    have he : encS k = encU (zig k) := by unfold encS encU; rw [if_pos hf, if_pos hz]
    rw [he]
    have HF := Lib.hid (rFits k true hf w)
    have hb : -2305843009213693952 ≤ k ∧ k ≤ 2305843009213693952 := by unfold fitS at hf; simpa using hf
    obtain ⟨hb1, hb2⟩ := hb
    have HC := Lib.hid (rAppU l n hn hs (zig k) A c w ha)
    clear ha hn hf he hz
    by_cases hk : k < 0
    · rw [show zig k = -2 * k - 1 by unfold zig; rw [if_pos hk]] at HC ⊢
      go_enter Try.func19, Try.ntmps19
      go_wp2_with fail
      refine HF.out.mono ?_
      rintro e w0 ⟨rfl, rfl⟩
      go_wp2_with fail
      refine HC.out.mono ?_
      rintro e w1 ⟨B, q, d, rfl, hq, o1, b1⟩
      go_wp2
      go_ret
      exact ⟨B, q, d, rfl, hq, o1, b1⟩
    · rw [show zig k = 2 * k by unfold zig; rw [if_neg hk]] at HC ⊢
      go_enter Try.func19, Try.ntmps19
      go_wp2_with fail
      refine HF.out.mono ?_
      rintro e w0 ⟨rfl, rfl⟩
      go_wp2_with fail
      refine HC.out.mono ?_
      rintro e w1 ⟨B, q, d, rfl, hq, o1, b1⟩
      go_wp2
      go_ret
      exact ⟨B, q, d, rfl, hq, o1, b1⟩
  · have he : encS k = [] := by unfold encS; rw [if_neg hf]
    rw [he, List.append_nil]
    have HF := Lib.hid (rFits k false (by simpa using hf) w)
    have HA := Lib.hid ha; clear ha
    have HN := Lib.hid hn; clear hn
    clear hf he
    go_enter Try.func19, Try.ntmps19
    go_wp2_with fail
    refine HF.out.mono ?_
    rintro e w0 ⟨rfl, rfl⟩
    go_wp2_with (at_builtin; refine appB _ rfl (.tmp 8) (.tmp 9) rfl w.heap.size _ [] rfl (OwnB.made w w.heap.size (Nat.le_refl _)) A n c l rfl HN.out.symm (HA.out.alloc _) (by have := HN.out; simp; omega) (by simp) ?_; intro v2 w2 o2 b2)
    rw [List.nil_append] at o2
    go_ret
    exact GivesO.of o2 (((Below.refl _ w).alloc (Nat.le_refl _) _).trans b2)
/-- The call returns a number, a row in new memory and an error. -/
def GivesF (x : Value) (l : List UInt8) (err : Nat) (w : World) (e : Ending) (w' : World) : Prop := ∃ A q c, e = .returned (.tuple #[x, .slice A q c, .int .i64 err]) ∧ Hid (l.length = q) ∧ Rb w' A c l ∧ Hid (∀ ad, A = some ad → w.heap.size ≤ ad.block) ∧ Below w.heap.size w w'
theorem GivesF.err {l : List UInt8} {w w' : World} (k : Nat) (h : errU l = k) (h0 : k ≠ 0) (hb : Below w.heap.size w w') : GivesF (.int .i64 (valU l)) (resU l) (errU l) w (.returned (.tuple #[.int .i64 0, .slice none 0 0, .int .i64 k])) w' := by
  have e1 : valU l = 0 := by unfold valU; rw [if_neg (by omega)]
  have e2 : resU l = [] := by unfold resU; rw [if_neg (by omega)]
  rw [h, e1, e2]
  exact ⟨none, 0, 0, rfl, Lib.hid rfl, Rb.nil, Lib.hid (by simp), hb⟩
theorem GivesF.ok {l : List UInt8} {w w' : World} {A : Option Addr} {c n k M : Nat} (hn : l.length = n) (h : errU l = 0) (hd : dn l = k) (hM : valL (l.take (k + 1)) = M) (hr : Rb w' A c (l.drop (k + 1))) (hA : ∀ ad, A = some ad → w.heap.size ≤ ad.block) (hb : Below w.heap.size w w') : GivesF (.int .i64 (valU l)) (resU l) (errU l) w (.returned (.tuple #[.int .i64 M, .slice A (n - (k + 1)) c, .int .i64 0])) w' := by
  have e1 : valU l = M := by unfold valU; rw [if_pos h, hd, hM]
  have e2 : resU l = l.drop (k + 1) := by unfold resU; rw [if_pos h, hd]
  rw [h, e1, e2]
  exact ⟨A, n - (k + 1), c, rfl, Lib.hid (by rw [List.length_drop, hn]), hr, Lib.hid hA, hb⟩
theorem valDrop {m : List UInt8} {j : Nat} (h : j < m.length) : valL (m.drop j) = m[j].toNat % 128 + 128 * valL (m.drop (j + 1)) := by
  rw [List.drop_eq_getElem_cons h]; rfl
theorem valDropLt {m : List UInt8} {j : Nat} (h : m.length ≤ 9) (hj : 1 ≤ j) : valL (m.drop j) ≤ 72057594037927935 := by
  have h1 := valLt (m.drop j)
  have h2 : 128 ^ (m.drop j).length ≤ 128 ^ 8 := Nat.pow_le_pow_right (by omega) (by rw [List.length_drop]; omega)
  have h3 : (128 : Nat) ^ 8 = 72057594037927936 := by decide
  omega
set_option maxRecDepth 100000 in
set_option maxHeartbeats 2000000 in
theorem rUint (l : List UInt8) (n : Nat) (hn : l.length = n) (hs : n ≤ 300000) (A : Option Addr) (c : Nat) (w : World) (ha : Rb w A c l) :
    Calls Try.prog 12 #[.slice A n c] w (GivesF (.int .i64 (valU l)) (resU l) (errU l) w) := by
  have hle := ha.le
  have hmax := ha.max
  unfold maxLen at hmax
  rw [hn] at hle
  have HN := Lib.hid hn; clear hn
  have HA := Lib.hid ha; clear ha
  go_enter Try.func12, Try.ntmps12
  go_wp2
  go_loop [5] (fun vi => ∃ k : Nat, k ≤ n ∧ k ≤ 9 ∧ vi = .int .i64 k ∧ Hid (k ≤ dn l)) (fun vi => n - (intOf vi).toNat)
  case atStart => exact ⟨0, Nat.zero_le _, by omega, rfl, Lib.hid (Nat.zero_le _)⟩
  case round =>
    obtain ⟨k, hk, hk9, rfl, HK⟩ := hrel
    by_cases h9 : k = 9
    · have HE := Lib.hid (show errU l = 2 by unfold errU; rw [if_pos (by have := HK.out; omega)])
      have h9' : ((k : Int) == 9) = true := by simp; omega
      have h9l : ¬ k < 9 := by omega
      have h9d : decide ((k : Int) < 9) = false := by simp; omega
      have H9 := Lib.hid h9; clear h9
      by_cases hlt : k < n
      · go_wp2
        go_ret3
        exact GivesF.err 2 HE.out (by decide) (Below.refl _ _)
      · have hd : decide ((k : Int) < n) = false := by simp; omega
        go_wp2
        go_ret3
        exact GivesF.err 2 HE.out (by decide) (Below.refl _ _)
    · have h9' : ((k : Int) == 9) = false := by simp; omega
      have hk8 : k < 9 := by omega
      by_cases hlt : k < n
      · have hkl : k < l.length := by have := HN.out; omega
        have hkn : ((k : Int) == (n : Int)) = false := by simp; omega
        obtain ⟨ad, hAd, hbl, hcw⟩ := HA.out.one hkl
        subst hAd
        obtain ⟨x, hx⟩ : ∃ x, l[k] = x := ⟨_, rfl⟩
        rw [hx] at hcw
        have HX := Lib.hid hx
        have hxlt := UInt8.toNat_lt x
        clear hx
        obtain ⟨y, hy⟩ : ∃ y, x.toNat = y := ⟨_, rfl⟩
        rw [hy] at hcw hxlt
        have HY := Lib.hid hy; clear hy
        by_cases hc : y < 128
        · have HD := Lib.hid (dnHere HK.out hkl HX.out (by rw [HY.out]; exact hc))
          have HG := Lib.hid (getD_one l k x (by rw [List.getElem?_eq_getElem hkl, HX.out]))
          have hc2 : decide ((y : Int) ≥ 128) = false := by simp; omega
          by_cases hf : 0 < k ∧ y = 0
          · obtain ⟨hf1, hf2⟩ := hf
            have HE := Lib.hid (show errU l = 3 by
              unfold errU
              have hx0 : x = 0 := UInt8.toNat_inj.1 (by rw [HY.out, hf2]; rfl)
              rw [HD.out, if_neg (by omega), if_neg (by omega), if_pos ⟨hf1, by rw [HG.out, hx0]⟩])
            have hy0 : ((y : Int) == 0) = true := by simp; omega
            clear hf2
            go_wp2
            go_ret3
            exact GivesF.err 3 HE.out (by decide) (Below.refl _ _)
          · have hef : ¬ (0 < k ∧ l.getD k 1 = 0) := by
              rintro ⟨h1, h2⟩
              rw [HG.out] at h2
              exact hf ⟨h1, by rw [← HY.out, h2]; rfl⟩
            obtain ⟨m, hm⟩ : ∃ m, l.take (k + 1) = m := ⟨_, rfl⟩
            have HM := Lib.hid hm
            have hml : m.length = k + 1 := by rw [← hm, List.length_take]; omega
            have HML := Lib.hid hml
            clear hm hml
            have HR := Lib.hid (tailRb HA.out (k := k + 1) (by omega))
            have hcut := cutB (some ad) n c (k + 1) (by omega) ((k : Int) + 1) (by omega)
            obtain ⟨T, hT⟩ : ∃ T, tailA (some ad) c (k + 1) = T := ⟨_, rfl⟩
            rw [hT] at HR hcut
            clear hT
            have hy0 : 0 < k → ((y : Int) == 0) = false := fun h => by simp; intro e; exact hf ⟨h, e⟩
            clear hf
            have HV : Hid (∀ i, (h : i < k + 1) → ∃ y2 : Nat, w.cell? (ad.add i) = some (.int .u8 (y2 : Int)) ∧ y2 < 256 ∧ valL (m.drop i) = y2 % 128 + 128 * valL (m.drop (i + 1))) := Lib.hid (fun i h => by
              obtain ⟨ad2, e2, _, hc3⟩ := HA.out.one (k := i) (by omega)
              injection e2 with e2
              subst e2
              refine ⟨_, hc3, UInt8.toNat_lt _, ?_⟩
              rw [valDrop (by have := HML.out; omega)]
              congr 3
              have hm := HM.out
              subst hm
              rw [List.getElem_take])
            have hk0' : decide ((k : Int) > 0) = decide (0 < k) := by simp
            rcases Nat.eq_zero_or_pos k with hk0 | hk0
            · have hk1 : decide (0 < k) = false := by simp; omega
              have HK0 := Lib.hid hk0
              clear hk0' hy0 hk0
              go_wp2
              go_loop [6, 7] (fun vn vi => ∃ (j q : Nat) (z : Int), vi = .int .i64 z ∧ z + 1 = j ∧ j ≤ k + 1 ∧ vn = .int .i64 q ∧ Hid (valL (m.drop j) = q)) (fun _ vi => (intOf vi + 1).toNat)
              case atStart => exact ⟨k + 1, 0, k, rfl, by omega, Nat.le_refl _, rfl, Lib.hid (by rw [List.drop_eq_nil_of_le (by have := HML.out; omega)]; rfl)⟩
              case round =>
                obtain ⟨j, q, z, rfl, hz, hj, rfl, HQ⟩ := hrel
                rcases j with _ | i
                · obtain rfl : z = -1 := by omega
                  have hq : valL (l.take (k + 1)) = q := by rw [HM.out]; simpa using HQ.out
                  have hqb := valBd hq (by omega)
                  have hqb2 : q < 128 ^ 9 := Nat.lt_of_lt_of_le hqb (Nat.pow_le_pow_right (by omega) (by omega))
                  have hqi : (q : Int) ≤ 9223372036854775807 := by omega
                  have HQV := Lib.hid hq
                  clear hq hqb hqb2
                  by_cases hbig : 4611686018427387904 < q
                  · have HE := Lib.hid (show errU l = 2 by
                      unfold errU
                      rw [HD.out, if_neg (by omega), if_neg (by omega), if_neg hef, HQV.out, if_pos hbig])
                    have hbig' : (q : Int) > 4611686018427387904 := by omega
                    go_wp2
                    go_ret3
                    exact GivesF.err 2 HE.out (by decide) (Below.refl _ _)
                  · have HE := Lib.hid (show errU l = 0 by
                      unfold errU
                      rw [HD.out, if_neg (by omega), if_neg (by omega), if_neg hef, HQV.out, if_neg hbig])
                    have hbig' : (q : Int) ≤ 4611686018427387904 := by omega
                    go_wp2_with (at_builtin; refine appB _ rfl (.tmp 57) (.tmp 61) rfl w.heap.size _ [] rfl (OwnB.made w w.heap.size (Nat.le_refl _)) T (n - (k + 1)) (c - (k + 1)) (l.drop (k + 1)) rfl (by rw [List.length_drop, HN.out]) (HR.out.alloc _) (by have := HN.out; simp; omega) (by simp) ?_; intro v2 w2 o2 b2)
                    rw [List.nil_append] at o2
                    obtain ⟨A2, c2, rfl, r2, hfr⟩ := o2.rd
                    have hl2 : (l.drop (k + 1)).length = n - (k + 1) := by rw [List.length_drop, HN.out]
                    rw [hl2]
                    clear hl2
                    go_ret3
                    exact GivesF.ok HN.out HE.out HD.out HQV.out r2 hfr (((Below.refl _ w).alloc (Nat.le_refl _) _).trans b2)
                · obtain rfl : z = (i : Int) := by omega
                  obtain ⟨y2, hc3, hy2, hv2⟩ := HV.out i (by omega)
                  have hq2 : q ≤ 72057594037927935 := by rw [← HQ.out]; exact valDropLt (by have := HML.out; omega) (by omega)
                  have HS := Lib.hid (show valL (m.drop i) = q * 128 + y2 % 128 by rw [hv2, HQ.out]; omega)
                  clear hv2
                  go_wp2
                  go_round
                  case rel => exact ⟨i, q * 128 + y2 % 128, (i : Int) - 1, rfl, by omega, by omega, by go_num, HS⟩
                  case measure => simp [intOf] <;> omega
            · have hy1 := hy0 hk0
              clear hy0 hk0'
              go_wp2
              go_loop [6, 7] (fun vn vi => ∃ (j q : Nat) (z : Int), vi = .int .i64 z ∧ z + 1 = j ∧ j ≤ k + 1 ∧ vn = .int .i64 q ∧ Hid (valL (m.drop j) = q)) (fun _ vi => (intOf vi + 1).toNat)
              case atStart => exact ⟨k + 1, 0, k, rfl, by omega, Nat.le_refl _, rfl, Lib.hid (by rw [List.drop_eq_nil_of_le (by have := HML.out; omega)]; rfl)⟩
              case round =>
                obtain ⟨j, q, z, rfl, hz, hj, rfl, HQ⟩ := hrel
                rcases j with _ | i
                · obtain rfl : z = -1 := by omega
                  have hq : valL (l.take (k + 1)) = q := by rw [HM.out]; simpa using HQ.out
                  have hqb := valBd hq (by omega)
                  have hqb2 : q < 128 ^ 9 := Nat.lt_of_lt_of_le hqb (Nat.pow_le_pow_right (by omega) (by omega))
                  have hqi : (q : Int) ≤ 9223372036854775807 := by omega
                  have HQV := Lib.hid hq
                  clear hq hqb hqb2
                  by_cases hbig : 4611686018427387904 < q
                  · have HE := Lib.hid (show errU l = 2 by
                      unfold errU
                      rw [HD.out, if_neg (by omega), if_neg (by omega), if_neg hef, HQV.out, if_pos hbig])
                    have hbig' : (q : Int) > 4611686018427387904 := by omega
                    go_wp2
                    go_ret3
                    exact GivesF.err 2 HE.out (by decide) (Below.refl _ _)
                  · have HE := Lib.hid (show errU l = 0 by
                      unfold errU
                      rw [HD.out, if_neg (by omega), if_neg (by omega), if_neg hef, HQV.out, if_neg hbig])
                    have hbig' : (q : Int) ≤ 4611686018427387904 := by omega
                    go_wp2_with (at_builtin; refine appB _ rfl (.tmp 57) (.tmp 61) rfl w.heap.size _ [] rfl (OwnB.made w w.heap.size (Nat.le_refl _)) T (n - (k + 1)) (c - (k + 1)) (l.drop (k + 1)) rfl (by rw [List.length_drop, HN.out]) (HR.out.alloc _) (by have := HN.out; simp; omega) (by simp) ?_; intro v2 w2 o2 b2)
                    rw [List.nil_append] at o2
                    obtain ⟨A2, c2, rfl, r2, hfr⟩ := o2.rd
                    have hl2 : (l.drop (k + 1)).length = n - (k + 1) := by rw [List.length_drop, HN.out]
                    rw [hl2]
                    clear hl2
                    go_ret3
                    exact GivesF.ok HN.out HE.out HD.out HQV.out r2 hfr (((Below.refl _ w).alloc (Nat.le_refl _) _).trans b2)
                · obtain rfl : z = (i : Int) := by omega
                  obtain ⟨y2, hc3, hy2, hv2⟩ := HV.out i (by omega)
                  have hq2 : q ≤ 72057594037927935 := by rw [← HQ.out]; exact valDropLt (by have := HML.out; omega) (by omega)
                  have HS := Lib.hid (show valL (m.drop i) = q * 128 + y2 % 128 by rw [hv2, HQ.out]; omega)
                  clear hv2
                  go_wp2
                  go_round
                  case rel => exact ⟨i, q * 128 + y2 % 128, (i : Int) - 1, rfl, by omega, by omega, by go_num, HS⟩
                  case measure => simp [intOf] <;> omega
        · have h9 := Lib.hid (dnMore HK.out hkl HX.out (by rw [HY.out]; exact hc))
          go_wp2
          go_round
          case rel => exact ⟨k + 1, by omega, by omega, by go_num, h9⟩
          case measure => simp [intOf]; omega
      · have HE := Lib.hid (show errU l = 22 by
          have h1 := HK.out
          have h2 := dnLe l
          have h3 := HN.out
          unfold errU
          rw [if_neg (by omega), if_pos (by omega)])
        have hkn : ((k : Int) == (n : Int)) = true := by simp; omega
        have hd : decide ((k : Int) < n) = false := by simp; omega
        go_wp2
        go_ret3
        exact GivesF.err 22 HE.out (by decide) (Below.refl _ _)
end Go.Proofs.Ytcbipokohjajoaa
