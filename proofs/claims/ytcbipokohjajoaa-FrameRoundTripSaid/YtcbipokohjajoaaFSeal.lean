/-
  The contracts of Seal and Open.
-/
import Derived.Test.YtcbipokohjajoaaFApp
import Derived.Test.YtcbipokohjajoaaFrmL
import Derived.Test.YtcbipokohjajoaaFCrc
import Derived.Test.YtcbipokohjajoaaFSame
import Derived.Test.YtcbipokohjajoaaFStr
namespace Go.Proofs.Ytcbipokohjajoaa
open Go.RowKit

theorem iSeal (p : List UInt8) (n : Nat) (hn : p.length = n) (hs : n ≤ 100000) (A : Option Addr) (c : Nat) (w : World) (ha : Rb w A c p) :
    Calls Try.prog 33 #[.slice A n c] w (GivesO (sealL p) w) := by
  have hq := encULen (n : Int)
  have HE := Lib.hid (iEncA (n : Int) w)
  rw [encUNat (by omega)] at hq HE
  obtain ⟨R, hR⟩ : ∃ R, sealL p = R := ⟨_, rfl⟩
  have hR2 := hR
  unfold sealL at hR2
  rw [hn] at hR2
  have hlen : (encL n ++ p).length ≤ n + 9 := by rw [List.length_append, hn]; omega
  obtain ⟨m, hm⟩ : ∃ m, encL n = m := ⟨_, rfl⟩
  rw [hm] at hq HE hR2 hlen
  obtain ⟨M, hM⟩ : ∃ M, m ++ p = M := ⟨_, rfl⟩
  rw [hM] at hR2 hlen
  have HM := Lib.hid hM
  have HR := Lib.hid hR2
  rw [hR]
  have HA := Lib.hid ha; clear ha
  have HN := Lib.hid hn; clear hn
  clear hm hM hR hR2
  go_enter Try.func33, Try.ntmps33
  go_wp2_with fail
  refine HE.out.mono ?_
  rintro e w1 ⟨B, q, d, rfl, hqm, o1, b1⟩
  have hqb := hq
  rw [hqm.out] at hqb
  go_wp2_with fail
  refine (iJoin2 m p q n hqm.out HN.out (by omega) B A d c w1 o1.rb.1 (HA.out.below b1)).mono ?_
  rintro e w2 ⟨D, j, f, rfl, hj, o2, b2⟩
  rw [HM.out] at hj o2
  have b3 := Lib.hid (stepA b1 (b2.mono (by simp; have := b1.size; omega)))
  have r2 := Lib.hid o2.rb.1
  have hj9 := hlen
  rw [hj.out] at hj9
  clear o1 o2 b1 b2
  go_wp2_with fail
  refine (iSumOf M j hj.out D f w2 r2.out).mono ?_
  rintro e w3 ⟨D3, j3, f3, rfl, hj3, o3, b4⟩
  have hz3 := b3.out.size
  have b5 := Lib.hid (belowThen b3.out b4)
  have hj4 : j3 = 4 := by rw [← hj3.out]; rfl
  have r3 := Lib.hid o3.rb.1
  have r4 := Lib.hid (r2.out.below b4)
  have hz5 := b5.out.size
  have HJ := Lib.hid hj4
  clear o3 b4 hj4
  go_wp2_with fail
  refine (iJoin2 M (sumB (crc M)) j j3 hj.out hj3.out (by have := HJ.out; omega) D D3 f f3 w3 r4.out r3.out).mono ?_
  rintro e w4 ⟨D4, j4, f4, rfl, hj4, o4, b6⟩
  rw [HR.out] at hj4 o4
  have b7 := stepA b5.out (b6.mono (by simp; omega))
  have o5 := o4.mono (base' := w.heap.size) (by simp; omega)
  clear o4 b6
  go_wp2
  go_ret
  exact ⟨D4, j4, f4, rfl, hj4, o5, b7⟩
/-- The call returns a payload, the bytes behind its frame and an error. -/
def GivesP (p r : List UInt8) (err : Nat) (w : World) (e : Ending) (w' : World) : Prop :=
  ∃ A q c B k d, e = .returned (.tuple #[.slice A q c, .slice B k d, .int .i64 err]) ∧ Hid (p.length = q) ∧ Hid (r.length = k) ∧ Rb w' A c p ∧ Rb w' B d r ∧ Below w.heap.size w w'
theorem GivesP.err {l : List UInt8} {w w' : World} (k : Nat) (h : errO l = k) (h0 : k ≠ 0) (hb : Below w.heap.size w w') : GivesP (payO l) (aftO l) (errO l) w (.returned (.tuple #[.slice none 0 0, .slice none 0 0, .int .i64 k])) w' := by
  have e1 : payO l = [] := by unfold payO; rw [if_neg (by omega)]
  have e2 : aftO l = [] := by unfold aftO; rw [if_neg (by omega)]
  rw [h, e1, e2]
  exact ⟨none, 0, 0, none, 0, 0, rfl, Lib.hid rfl, Lib.hid rfl, Rb.nil, Rb.nil, hb⟩
theorem errOU {l : List UInt8} (h : errU l ≠ 0) : errO l = errU l := by unfold errO; rw [if_pos h]
theorem errOS {l : List UInt8} (h : errU l = 0) (h2 : (resU l).length < valU l + 4) : errO l = 22 := by unfold errO; rw [if_neg (by omega), if_pos h2]
theorem errOSum {l : List UInt8} (h : errU l = 0) (h2 : ¬ (resU l).length < valU l + 4) (h3 : (l.drop (sumAt l)).take 4 ≠ sumB (crc (l.take (sumAt l)))) : errO l = 21 := by unfold errO; rw [if_neg (by omega), if_neg h2, if_pos h3]
theorem errOOk {l : List UInt8} (h : errU l = 0) (h2 : ¬ (resU l).length < valU l + 4) (h3 : (l.drop (sumAt l)).take 4 = sumB (crc (l.take (sumAt l)))) : errO l = 0 := by unfold errO; rw [if_neg (by omega), if_neg h2, if_neg (by simpa using h3)]
set_option maxRecDepth 100000 in
set_option maxHeartbeats 1000000 in
theorem iOpen (l : List UInt8) (n : Nat) (hn : l.length = n) (hs : n ≤ 100000) (A : Option Addr) (c : Nat) (w : World) (ha : Rb w A c l) :
    Calls Try.prog 29 #[.slice A n c] w (GivesP (payO l) (aftO l) (errO l) w) := by
  have hle := ha.le
  have hmax := ha.max
  unfold maxLen at hmax
  rw [hn] at hle
  have HD := Lib.hid (iDec l n hn A c w ha)
  have hvl := valLeU l
  by_cases h : errU l = 0
  · rw [h] at HD
    by_cases h2 : (resU l).length < valU l + 4
    · have HE := Lib.hid (errOS h h2)
      obtain ⟨V, hV⟩ : ∃ V, valU l = V := ⟨_, rfl⟩
      rw [hV] at HD hvl h2
      have H2 := Lib.hid h2
      clear h h2 hV ha hn
      go_enter Try.func29, Try.ntmps29
      go_wp2_with fail
      refine HD.out.mono ?_
      rintro e w1 ⟨B, q, d, rfl, hq, r1, _, b1⟩
      have hqv : q < V + 4 := by rw [← hq.out]; exact H2.out
      go_wp2
      go_ret3
      exact GivesP.err 22 HE.out (by decide) b1
    · have hsz := sumAtLe (l := l) (by omega)
      have hrl := resLenLe l
      rw [hn] at hsz hrl
      have HA := Lib.hid ha
      have HN := Lib.hid hn
      obtain ⟨V, hV⟩ : ∃ V, valU l = V := ⟨_, rfl⟩
      obtain ⟨R, hR⟩ : ∃ R, resU l = R := ⟨_, rfl⟩
      obtain ⟨z, hz⟩ : ∃ z, sumAt l = z := ⟨_, rfl⟩
      have hzz : z = n - R.length + V := by rw [← hz]; unfold sumAt; rw [hn, hR, hV]
      rw [hV, hR] at HD
      rw [hV] at hvl
      rw [hV, hR] at h2
      rw [hR] at hrl
      rw [hz] at hsz
      have hcut := cutH A n c z (by omega) z rfl
      have hcut2 := cutLH A n c z (z + 4) (by omega) (by omega) z ((z : Int) + 4) rfl (by omega)
      have hcut3 := cutB A n c (z + 4) (by omega) ((z : Int) + 4) (by omega)
      have hze : z + 4 - z = 4 := by omega
      rw [hze] at hcut2
      have rC := ha.take z (by omega)
      have rS := lhRb ha (k := z) (m := z + 4) (by omega) (by omega)
      have rA := tailRb ha (k := z + 4) (by omega)
      rw [hze] at rS
      obtain ⟨TS, hTS⟩ : ∃ T, tailA A c z = T := ⟨_, rfl⟩
      obtain ⟨TA, hTA⟩ : ∃ T, tailA A c (z + 4) = T := ⟨_, rfl⟩
      rw [hTS] at rS hcut2
      rw [hTA] at rA hcut3
      have RC := Lib.hid rC
      have RS := Lib.hid rS
      have RA := Lib.hid rA
      have HCL := Lib.hid (show (l.take z).length = z by rw [List.length_take]; omega)
      have HSL := Lib.hid (show ((l.drop z).take 4).length = 4 by rw [List.length_take, List.length_drop]; omega)
      have HAL := Lib.hid (show (l.drop (z + 4)).length = n - (z + 4) by rw [List.length_drop, hn])
      have H2 := Lib.hid h2
      have HZ := Lib.hid hz
      have HVV := Lib.hid hV
      have HRR := Lib.hid hR
      have HZZ := Lib.hid hzz
      have HH := Lib.hid h
      clear hze rC rS rA hTS hTA ha hn hzz h2 hz hV hR h
      go_enter Try.func29, Try.ntmps29
      go_wp2_with fail
      refine HD.out.mono ?_
      rintro e w1 ⟨B, q, d, rfl, hq, r1, _, b1⟩
      have hqv : V + 4 ≤ q := by have := H2.out; have := hq.out; omega
      have hqn : q ≤ n := by rw [← hq.out]; exact hrl
      obtain ⟨g, hg⟩ : ∃ g, n - q = g := ⟨_, rfl⟩
      have hnq : (n : Int) - (q : Int) = (g : Int) := by omega
      have hzg : (g : Int) + (V : Int) = (z : Int) := by have := HZZ.out; have := hq.out; omega
      have hrl2 := r1.le
      rw [hq.out] at hrl2
      have hrm := r1.max
      unfold maxLen at hrm
      have R1 := Lib.hid r1
      have B1 := Lib.hid b1
      have HG := Lib.hid hg
      clear r1 b1 hg hrl HD
      go_wp2
      go_quiet (fail)
      go_wp2_with fail
      refine (iSumOf (l.take z) z HCL.out A c _ ((RC.out.below B1.out).drewN _)).mono ?_
      rintro e w3 ⟨D3, j3, f3, rfl, hj3, o3, b4⟩
      have b5 := Lib.hid (belowThen B1.out (belowThen (belowN w1 _) b4))
      have hj4 : j3 = 4 := by rw [← hj3.out]; rfl
      subst hj4
      have r3 := o3.rb.1
      have rs3 := RS.out.below b5.out
      have R13 := Lib.hid (R1.out.below (belowThen (belowN w1 _) b4))
      have hz5 := b5.out.size
      clear o3 b4
      by_cases hsum : (l.drop (sumAt l)).take 4 = sumB (crc (l.take (sumAt l)))
      · have HE := Lib.hid (errOOk HH.out (by rw [HRR.out, HVV.out]; exact H2.out) hsum)
        rw [HZ.out] at hsum
        have HEQ := Lib.hid (bEqual ((l.drop z).take 4) (sumB (crc (l.take z))) true (eqLy hsum) 4 4 HSL.out hj3.out TS D3 (c - z) f3 w3 rs3 r3)
        have rP := R13.out.take V (by have := hq.out; omega)
        have HPL := Lib.hid (show (R.take V).length = V by rw [List.length_take]; have := hq.out; omega)
        have RP := Lib.hid rP
        have HP := Lib.hid (show payO l = R.take V by unfold payO; rw [if_pos HE.out, HRR.out, HVV.out])
        have HF := Lib.hid (show aftO l = l.drop (z + 4) by unfold aftO; rw [if_pos HE.out, HZ.out])
        have hcut4 := cutH B q d V (by omega) V rfl
        clear hsum rs3 r3 rP
        go_wp2_with fail
        refine HEQ.out.mono ?_
        rintro e w0 ⟨rfl, rfl⟩
        go_wp2_with fail
        refine (iJoin1 (R.take V) V HPL.out (by omega) B d w3 RP.out).mono ?_
        rintro e w4 ⟨D4, j4, f4, rfl, hj4, o4, b6⟩
        have b7 := Lib.hid (stepA b5.out (b6.mono (by simp; omega)))
        have r4 := Lib.hid o4.rb.1
        have hz7 := b7.out.size
        clear o4 b6
        go_wp2_with fail
        refine (iJoin1 (l.drop (z + 4)) (n - (z + 4)) HAL.out (by omega) TA (c - (z + 4)) w4 (RA.out.below b7.out)).mono ?_
        rintro e w5 ⟨D5, j5, f5, rfl, hj5, o5, b8⟩
        have b9 := Lib.hid (stepA b7.out (b8.mono (by simp; omega)))
        have r5 := Lib.hid o5.rb.1
        have r6 := Lib.hid (r4.out.below ((belowAlloc w4 (.cells #[.slice TA (n - (z + 4)) (c - (z + 4))] 22)).trans (b8.mono (by simp))))
        clear o5 b8
        go_wp2
        go_ret3
        rw [HP.out, HF.out, HE.out]
        exact ⟨D4, j4, f4, D5, j5, f5, rfl, hj4, hj5, r6.out, r5.out, b9.out⟩
      · have HE := Lib.hid (errOSum HH.out (by rw [HRR.out, HVV.out]; exact H2.out) hsum)
        rw [HZ.out] at hsum
        have HEQ := Lib.hid (bEqual ((l.drop z).take 4) (sumB (crc (l.take z))) false (eqLn hsum) 4 4 HSL.out hj3.out TS D3 (c - z) f3 w3 rs3 r3)
        clear hsum rs3 r3
        go_wp2_with fail
        refine HEQ.out.mono ?_
        rintro e w0 ⟨rfl, rfl⟩
        go_wp2
        go_ret3
        exact GivesP.err 21 HE.out (by decide) b5.out
  · have HE := Lib.hid (errOU h)
    have hv := valErr h
    rw [hv.1, hv.2] at HD
    obtain ⟨E, hE⟩ : ∃ E, errU l = E := ⟨_, rfl⟩
    rw [hE] at h HD HE
    have hE0 : ((E : Int) != 0) = true := by simp; omega
    have H0 := Lib.hid h
    clear hE hv h ha hn hvl
    go_enter Try.func29, Try.ntmps29
    go_wp2_with fail
    refine HD.out.mono ?_
    rintro e w1 ⟨B, q, d, rfl, hq, r1, _, b1⟩
    go_wp2
    go_ret3
    exact GivesP.err E HE.out H0.out b1
end Go.Proofs.Ytcbipokohjajoaa
