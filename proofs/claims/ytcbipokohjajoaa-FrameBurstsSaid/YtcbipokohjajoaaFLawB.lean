/-
  The law FrameBursts.
-/
import Derived.Test.YtcbipokohjajoaaFLives
import Derived.Test.YtcbipokohjajoaaFBurM
import Derived.Test.YtcbipokohjajoaaFLawT
import Derived.StillTailTactics
import Derived.Laws.OwnMore
namespace Go.Proofs.Ytcbipokohjajoaa
open Go.RowKit

theorem OwnB.at_ {w : World} {base g q d : Nat} {l : List UInt8} (h : OwnB w base (.slice (some ⟨g, 0, none⟩) q d) l) : w.ownsRow base 5 1 (.slice (some ⟨g, 0, none⟩) q d) q (bv l) := by
  have e := h.rb.2.1
  unfold OwnB at h
  rwa [e] at h
theorem OwnB.cell {w : World} {base g q d : Nat} {l : List UInt8} (h : OwnB w base (.slice (some ⟨g, 0, none⟩) q d) l) {i : Nat} {x : UInt8} (hx : l[i]? = some x) : w.cell? ⟨g, i, none⟩ = some (.int .u8 (x.toNat : Int)) := by
  have hi : i < q := by have h1 := (List.getElem?_eq_some_iff.1 hx).1; have := h.rb.2.1; omega
  rw [h.at_.cellAt i (by omega), List.getElem?_map, hx]; rfl
theorem OwnB.set {w : World} {base g q d : Nat} {l : List UInt8} (h : OwnB w base (.slice (some ⟨g, 0, none⟩) q d) l) (i : Nat) (v : UInt8) : OwnB (w.setCell ⟨g, i, none⟩ (.int .u8 (v.toNat : Int))) base (.slice (some ⟨g, 0, none⟩) q d) (l.set i v) := by
  have h1 := (h.at_.stored i (.int .u8 (v.toNat : Int))).1
  unfold OwnB
  rw [List.length_set, h.rb.2.1]
  have e : bv (l.set i v) = (bv l).set i (.int .u8 (v.toNat : Int)) := by simp [bv]
  rw [e]; exact h1
theorem OwnB.block {w : World} {base : Nat} {A : Option Addr} {q c : Nat} {l : List UInt8} (h : OwnB w base (.slice A q c) l) (hp : 0 < l.length) : ∃ g, A = some ⟨g, 0, none⟩ ∧ base ≤ g := by
  rcases h.2 with ⟨h1, h2⟩ | ⟨g, cap, cur, h1, h2, _⟩
  · omega
  · injection h1 with h1
    exact ⟨g, h1, h2⟩
set_option maxRecDepth 100000 in
set_option maxHeartbeats 4000000 in
theorem lawBursts (l : List UInt8) (n : Nat) (hn : l.length = n) (a : Int) (ha1 : -9223372036854775808 ≤ a ∧ a ≤ 9223372036854775807) (bz : Int) (hbz : 0 ≤ bz ∧ bz ≤ 4294967295) (A : Option Addr) (c : Nat) (w : World) (ha : Rb w A c l) :
    Calls Try.prog 9 #[.slice A n c, .int .i64 a, .int .u32 bz] w fun e w' => e = .returned (.bool true) ∧ Below w.heap.size w w' := by
  obtain ⟨bt, rfl⟩ := Int.eq_ofNat_of_zero_le hbz.1
  have hbt : bt < 4294967296 := by omega
  clear hbz
  by_cases h : n > 150
  · have H := Lib.hid (livesOk w)
    go_enter Try.func9, Try.ntmps9
    go_wp2_with fail
    refine H.out.mono ?_
    rintro e w1 ⟨rfl, b1⟩
    go_wp2
    go_ret
    exact ⟨rfl, b1⟩
  by_cases h0 : a < 0
  · have H := Lib.hid (livesOk w)
    have hd : decide ((n : Int) > 150) = false := by simp; omega
    go_enter Try.func9, Try.ntmps9
    go_wp2_with fail
    refine H.out.mono ?_
    rintro e w1 ⟨rfl, b1⟩
    go_wp2
    go_ret
    exact ⟨rfl, b1⟩
  obtain ⟨t, rfl⟩ := Int.eq_ofNat_of_zero_le (show 0 ≤ a by omega)
  have htm : t ≤ 9223372036854775807 := by omega
  clear ha1 h0
  have hd : ¬ (n : Int) > 150 := by omega
  have HS := Lib.hid (iSeal l n hn (by omega) A c w ha)
  have hlen := sealLen l
  have he1 := encPos l.length
  have he9 := encLen l.length 9 (by omega) (by omega)
  rw [hn] at hlen he1 he9
  obtain ⟨h, hh⟩ : ∃ h, (encL n).length = h := ⟨_, rfl⟩
  rw [hh] at hlen he1 he9
  have HH := Lib.hid hh
  have HN := Lib.hid hn
  have HLEN := Lib.hid hlen
  have HA := Lib.hid ha
  clear hh hn hlen ha
  go_enter Try.func9, Try.ntmps9
  go_wp2_with fail
  refine HS.out.mono ?_
  rintro e w1 ⟨B, q, d, rfl, hq, o1, b1⟩
  have hqe : q = h + n + 4 := hq.out.symm.trans HLEN.out
  have hq1 : q ≤ h + n + 4 := by omega
  have hq2 : h + n + 4 ≤ q := by omega
  obtain ⟨g, rfl, hg⟩ := o1.block (by rw [HLEN.out]; omega)
  have hd2 := o1.rb.1.le
  have hdm := o1.rb.1.max
  unfold maxLen at hdm
  rw [hq.out] at hd2
  have O1 := Lib.hid o1
  have B1 := Lib.hid b1
  have HQE := Lib.hid hqe
  have hx1 : (q : Int) - (n : Int) - 4 = (h : Int) := by omega
  have hx2 : ¬ (h : Int) < 1 := by omega
  have hen := HH.out
  have hsl : sealL l = encL n ++ (l ++ sumB (crc (encL n ++ l))) := by unfold sealL; rw [HN.out, List.append_assoc]
  have HSL := Lib.hid hsl
  have HRL := Lib.hid (show (l ++ sumB (crc (encL n ++ l))).length = n + 4 by rw [List.length_append, HN.out]; rfl)
  clear HS o1 b1 hqe hen hsl
  by_cases hbig : 8 * (n + 4) ≤ t
  · have HL := Lib.hid (livesOk w1)
    go_wp2_with fail
    refine HL.out.mono ?_
    rintro e w2 ⟨rfl, b2⟩
    go_wp2
    go_ret
    exact ⟨rfl, belowThen B1.out b2⟩
  · go_wp2
    go_loopw [9, 10] (fun vc vk wr => ∃ (k : Nat) (ch : Bool) (r : List UInt8), vk = .int .i64 k ∧ k ≤ 32 ∧ vc = .bool ch ∧ Hid (ch = decide (bt % 2 ^ k ≠ 0)) ∧ Hid (r.length = n + 4) ∧ OwnB wr w.heap.size (.slice (some ⟨g, 0, none⟩) q d) (encL n ++ r) ∧ Hid (le (encL n ++ r) = le (sealL l) ^^^ bt % 2 ^ k * 2 ^ (8 * h + t)) ∧ Below w.heap.size w wr) (fun _ vk _ => 32 - (intOf vk).toNat)
    case atStart => exact ⟨0, false, l ++ sumB (crc (encL n ++ l)), rfl, by omega, rfl, Lib.hid (by rw [Nat.pow_zero, Nat.mod_one]; rfl), HRL, by rw [← HSL.out]; exact O1.out, Lib.hid (by rw [← HSL.out, Nat.pow_zero, Nat.mod_one, Nat.zero_mul, Nat.xor_zero]), B1.out⟩
    case round =>
      clear O1 HRL
      obtain ⟨k, ch, r, rfl, hk, rfl, HCH, HRL, os, HLE, hb⟩ := hrel
      have hz := hb.size
      by_cases hgo : k < 32 ∧ t + k < 8 * (n + 4)
      · obtain ⟨hk32, htk⟩ := hgo
        have hba : bits .and .u32 ((bt : Int) / 2 ^ k) 1 = ((bt / 2 ^ k % 2 : Nat) : Int) := by
          rw [← andOne (Nat.lt_of_le_of_lt (Nat.div_le_self _ _) hbt)]; simp
        by_cases hbit : bt / 2 ^ k % 2 = 1
        · have hb1 : (bits .and .u32 ((bt : Int) / 2 ^ k) 1 == 1) = true := by rw [hba, hbit]; rfl
          have HBIT := Lib.hid hbit
          obtain ⟨s, hs⟩ : ∃ s, t + k = s := ⟨_, rfl⟩
          have hsI : (t : Int) + (k : Int) = (s : Int) := by omega
          have hjl : s / 8 < n + 4 := by omega
          obtain ⟨x, hx⟩ : ∃ x, r[s / 8]? = some x := ⟨_, List.getElem?_eq_getElem (by rw [HRL.out]; exact hjl)⟩
          have hxlt := UInt8.toNat_lt x
          have HX := Lib.hid hx
          have HS := Lib.hid hs
          obtain ⟨j, hj⟩ : ∃ j, s / 8 = j := ⟨_, rfl⟩
          obtain ⟨z, hz⟩ : ∃ z, s % 8 = z := ⟨_, rfl⟩
          have hzl : z < 8 := by omega
          rw [hj] at hjl
          have hjI : (s : Int) / 8 = (j : Int) := by omega
          obtain ⟨i, hi⟩ : ∃ i, h + j = i := ⟨_, rfl⟩
          have hiI : (h : Int) + (j : Int) = (i : Int) := by omega
          have hi1 : (0 : Int) ≤ (i : Int) := by omega
          have hi2 : (i : Int) < (q : Int) := by omega
          have hcell : wr.cell? ⟨g, i, none⟩ = some (.int .u8 (x.toNat : Int)) := by
            refine os.cell ?_
            rw [← hi, List.getElem?_append_right (by rw [HH.out]; omega), HH.out, show h + j - h = j by omega, ← hj, HX.out]
          have hfz : wr.frozen? ⟨g, i, none⟩ = false := os.at_.frozenAt _
          obtain ⟨pz, hpz⟩ : ∃ pz, 2 ^ z = pz := ⟨_, rfl⟩
          have hpl : pz < 256 := by rw [← hpz]; exact Nat.lt_of_lt_of_le (Nat.pow_lt_pow_right (by omega) hzl) (by omega)
          obtain ⟨v, hv⟩ : ∃ v : UInt8, x ^^^ UInt8.ofNat pz = v := ⟨_, rfl⟩
          have hvn : x.toNat ^^^ pz = v.toNat := by rw [← hv, UInt8.toNat_xor, UInt8.toNat_ofNat', Nat.mod_eq_of_lt hpl]
          have hxor : bits .xor .u8 (x.toNat : Int) (2 ^ z % 256) = (v.toNat : Int) := by
            have e3 : ((2 : Int) ^ z) = ((2 ^ z : Nat) : Int) := by simp
            have e2 : (2 : Int) ^ z % 256 = (pz : Int) := by rw [e3, hpz]; omega
            rw [e2, u8_xor_nat _ _ hxlt hpl, hvn]
          have HV := Lib.hid hv
          have HPZ := Lib.hid hpz
          have HI := Lib.hid hi
          have HJ := Lib.hid hj
          have HZZ := Lib.hid hz
          have hw1 : IntKind.i64.wrap (s : Int) = (s : Int) := by rw [IntKind.wrap_i64]; omega
          have hz1 : (s : Int) % 8 = (z : Int) := by omega
          have hz2 : (s : Int).tmod 8 = (z : Int) := by rw [Int.tmod_eq_emod_of_nonneg (by omega)]; omega
          obtain ⟨y, hy⟩ : ∃ y, x.toNat = y := ⟨_, rfl⟩
          rw [hy] at hcell hxlt hxor
          obtain ⟨vn, hvn2⟩ : ∃ vn, v.toNat = vn := ⟨_, rfl⟩
          rw [hvn2] at hxor
          have HVN := Lib.hid hvn2
          have HY := Lib.hid hy
          clear hba hbit hs hx hi hj hz hy hpz hv hvn hvn2
          go_wp2
          go_still_tail 13, (by kernel_rfl)
          change wpList _ _ _ _ _ wr.drew
          have OS := Lib.hid (OwnB.drew (OwnB.set (w := wr) os i v))
          rw [HVN.out] at OS
          have HB2 := Lib.hid ((hb.setCell (p := ⟨g, i, none⟩) hg (.int .u8 (vn : Int))).drew)
          have hrj : r[j]? = some x := by rw [← HJ.out]; exact HX.out
          have HSP := Lib.hid (show (encL n ++ r).set i v = encL n ++ r.set j v by rw [← HI.out, ← HH.out]; exact setPart)
          rw [HSP.out] at OS
          have HR2 := Lib.hid (show (r.set j v).length = n + 4 by rw [List.length_set]; exact HRL.out)
          have HC2 := Lib.hid (show true = decide (bt % 2 ^ (k + 1) ≠ 0) by rw [decide_eq_true (bitPos HBIT.out)])
          have HL2 := Lib.hid (show le (encL n ++ r.set j v) = le (sealL l) ^^^ bt % 2 ^ (k + 1) * 2 ^ (8 * h + t) by
            have e1 := leTurn (e := encL n) (r := r) (t := s) (c := x) HX.out
            rw [HJ.out, HZZ.out, HPZ.out, HV.out, HH.out] at e1
            rw [e1, ← bitSet HBIT.out HLE.out]
            congr 2
            rw [← HS.out]; omega)
          clear os hb
          go_wp2
          go_roundw
          case rel => exact ⟨k + 1, true, _, by go_num, by omega, rfl, HC2, HR2, OS.out, HL2, HB2.out⟩
          case measure => simp [intOf]; omega
        · have hb1 : (bits .and .u32 ((bt : Int) / 2 ^ k) 1 == 1) = false := by rw [hba, show bt / 2 ^ k % 2 = 0 by omega]; rfl
          have hb0 : bt / 2 ^ k % 2 = 0 := by omega
          have HC2 := Lib.hid (show ch = decide (bt % 2 ^ (k + 1) ≠ 0) by rw [bitNot hb0]; exact HCH.out)
          have HL2 := Lib.hid (show le (encL n ++ r) = le (sealL l) ^^^ bt % 2 ^ (k + 1) * 2 ^ (8 * h + t) by rw [bitNot hb0]; exact HLE.out)
          have OS := Lib.hid os
          clear hba hbit hb0 os
          go_wp2
          go_roundw
          case rel => exact ⟨k + 1, ch, r, by go_num, by omega, rfl, HC2, HRL, OS.out, HL2, hb⟩
          case measure => simp [intOf]; omega
      · have hx2 : bt % 2 ^ k < 4294967296 := Nat.lt_of_le_of_lt (Nat.mod_le _ _) hbt
        have hln : l.length ≤ 1000 := by rw [HN.out]; omega
        have hrn : r.length = l.length + 4 := by rw [HRL.out, HN.out]
        have hen : encL l.length = encL n := by rw [HN.out]
        have hOpen : (bt % 2 ^ k ≠ 0 → errO (encL n ++ r) = 21 ∧ payO (encL n ++ r) = []) ∧ (bt % 2 ^ k = 0 → errO (encL n ++ r) = 0 ∧ payO (encL n ++ r) = l) := by
          rw [← hen]
          refine ⟨fun h0 => burstErr hln hrn (x := bt % 2 ^ k) (a := 8 * h + t) (by rw [hen]; exact HLE.out) hx2 h0 (by rw [HLEN.out]; omega), fun h0 => ?_⟩
          have e := burstNot (p := l) hrn (a := 8 * h + t) (by rw [hen, HLE.out, h0])
          have o := openSeal (p := l) hln []
          rw [List.append_nil] at o
          rw [e]
          exact ⟨o.1, o.2.1⟩
        have hdec : (decide ((k : Int) < 32) && decide ((t : Int) + (k : Int) < 8 * ((n : Int) + 4))) = false := by
          rw [Bool.and_eq_false_iff, decide_eq_false_iff_not, decide_eq_false_iff_not]
          omega
        have OPEN := Lib.hid (iOpen (encL n ++ r) q (os.rb.2.1) (by omega) _ d wr os.rb.1)
        have HBB := Lib.hid hb
        have HOO := Lib.hid hOpen
        have RL := Lib.hid (HA.out.below hb)
        clear hx2 hln hrn hen hOpen os hb
        rcases hch : decide (bt % 2 ^ k ≠ 0) with _ | _
        · have h0 : bt % 2 ^ k = 0 := by simpa using hch
          obtain ⟨e1, e2⟩ := HOO.out.2 h0
          rw [e1, e2] at OPEN
          obtain rfl : ch = false := HCH.out.trans hch
          clear e1 e2 h0 hch HOO HCH HLE
          by_cases hk32 : k < 32
          · have hk1 : ¬ (t : Int) + (k : Int) < 8 * ((n : Int) + 4) := by omega
            clear hdec
            go_wp2_with fail
            refine OPEN.out.mono ?_
            rintro e w2 ⟨A1, q1, c1, A2, q2, c2, rfl, h1, h2, r1, _, b2⟩
            have B2 := Lib.hid (belowThen HBB.out b2)
            have HSM := Lib.hid (rSame l l true (eqLy rfl) q1 n h1.out HN.out A1 A c1 c w2 r1 (RL.out.below b2))
            clear r1 b2
            go_wp2_with fail
            refine HSM.out.mono ?_
            rintro e w' ⟨rfl, rfl⟩
            have HL := Lib.hid (livesOk w2)
            go_wp2_with fail
            refine HL.out.mono ?_
            rintro e w3 ⟨rfl, b3⟩
            go_wp2
            go_ret
            exact ⟨rfl, belowThen B2.out b3⟩
          · have hk1 : decide ((k : Int) < 32) = false := by simp; omega
            clear hdec
            go_wp2_with fail
            refine OPEN.out.mono ?_
            rintro e w2 ⟨A1, q1, c1, A2, q2, c2, rfl, h1, h2, r1, _, b2⟩
            have B2 := Lib.hid (belowThen HBB.out b2)
            have HSM := Lib.hid (rSame l l true (eqLy rfl) q1 n h1.out HN.out A1 A c1 c w2 r1 (RL.out.below b2))
            clear r1 b2
            go_wp2_with fail
            refine HSM.out.mono ?_
            rintro e w' ⟨rfl, rfl⟩
            have HL := Lib.hid (livesOk w2)
            go_wp2_with fail
            refine HL.out.mono ?_
            rintro e w3 ⟨rfl, b3⟩
            go_wp2
            go_ret
            exact ⟨rfl, belowThen B2.out b3⟩
        · have h0 : bt % 2 ^ k ≠ 0 := by simpa using hch
          obtain ⟨e1, e2⟩ := HOO.out.1 h0
          rw [e1, e2] at OPEN
          obtain rfl : ch = true := HCH.out.trans hch
          clear e1 e2 h0 hch HOO HCH HLE
          by_cases hk32 : k < 32
          · have hk1 : ¬ (t : Int) + (k : Int) < 8 * ((n : Int) + 4) := by omega
            clear hdec
            go_wp2_with fail
            refine OPEN.out.mono ?_
            rintro e w2 ⟨A1, q1, c1, A2, q2, c2, rfl, h1, h2, _, _, b2⟩
            obtain rfl : 0 = q1 := h1.out
            have B2 := Lib.hid (belowThen HBB.out b2)
            have HL := Lib.hid (livesOk w2)
            clear b2
            go_wp2_with fail
            refine HL.out.mono ?_
            rintro e w3 ⟨rfl, b3⟩
            go_wp2
            go_ret
            exact ⟨rfl, belowThen B2.out b3⟩
          · have hk1 : decide ((k : Int) < 32) = false := by simp; omega
            clear hdec
            go_wp2_with fail
            refine OPEN.out.mono ?_
            rintro e w2 ⟨A1, q1, c1, A2, q2, c2, rfl, h1, h2, _, _, b2⟩
            obtain rfl : 0 = q1 := h1.out
            have B2 := Lib.hid (belowThen HBB.out b2)
            have HL := Lib.hid (livesOk w2)
            clear b2
            go_wp2_with fail
            refine HL.out.mono ?_
            rintro e w3 ⟨rfl, b3⟩
            go_wp2
            go_ret
            exact ⟨rfl, belowThen B2.out b3⟩
end Go.Proofs.Ytcbipokohjajoaa
