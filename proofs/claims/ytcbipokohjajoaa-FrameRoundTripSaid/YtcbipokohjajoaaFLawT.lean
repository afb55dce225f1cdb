/-
  The law FrameTruncated.
-/
import Derived.Test.YtcbipokohjajoaaFLives
namespace Go.Proofs.Ytcbipokohjajoaa
open Go.RowKit

theorem sealLen (p : List UInt8) : (sealL p).length = (encL p.length).length + p.length + 4 := by
  unfold sealL; rw [List.length_append, List.length_append]; rfl
theorem cutErr (p : List UInt8) (h : p.length ≤ 1000) (i : Nat) (hi : i < (sealL p).length) : errO ((sealL p).take i) = 22 ∧ payO ((sealL p).take i) = [] ∧ aftO ((sealL p).take i) = [] := by
  have he : errO ((sealL p).take i) = 22 := by
    rw [sealLen] at hi
    have hs : sealL p = encL p.length ++ (p ++ sumB (crc (encL p.length ++ p))) := by unfold sealL; rw [List.append_assoc]
    rcases Nat.lt_or_ge i (encL p.length).length with h1 | h1
    · have e : (sealL p).take i = (encL p.length).take i := by rw [hs, List.take_append_of_le_length (by omega)]
      have h2 := errCut (n := p.length) (i := i) (by omega) h1
      rw [e, errOU (by rw [h2]; decide), h2]
    · have e : (sealL p).take i = encL p.length ++ (p ++ sumB (crc (encL p.length ++ p))).take (i - (encL p.length).length) := by
        rw [hs, List.take_append, List.take_of_length_le h1]
      obtain ⟨h2, h3, h4⟩ := errEnc (n := p.length) (by omega) ((p ++ sumB (crc (encL p.length ++ p))).take (i - (encL p.length).length))
      rw [e]
      refine errOS h2 ?_
      rw [h3, h4, List.length_take, List.length_append]
      have : (sumB (crc (encL p.length ++ p))).length = 4 := rfl
      omega
  refine ⟨he, ?_, ?_⟩
  · unfold payO; rw [if_neg (by omega)]
  · unfold aftO; rw [if_neg (by omega)]
set_option maxRecDepth 100000 in
set_option maxHeartbeats 4000000 in
theorem lawTruncated (l : List UInt8) (n : Nat) (hn : l.length = n) (A : Option Addr) (c : Nat) (w : World) (ha : Rb w A c l) :
    Calls Try.prog 8 #[.slice A n c] w fun e w' => e = .returned (.bool true) ∧ Below w.heap.size w w' := by
  by_cases h : n > 150
  · have H := Lib.hid (livesOk w)
    go_enter Try.func8, Try.ntmps8
    go_wp2_with fail
    refine H.out.mono ?_
    rintro e w1 ⟨rfl, b1⟩
    go_wp2
    go_ret
    exact ⟨rfl, b1⟩
  · have HS := Lib.hid (iSeal l n hn (by omega) A c w ha)
    have hlen := sealLen l
    have he1 := encPos l.length
    have he9 := encLen l.length 9 (by omega) (by omega)
    have HCUT := Lib.hid (cutErr l (by omega))
    obtain ⟨M, hM⟩ : ∃ M, sealL l = M := ⟨_, rfl⟩
    rw [hM] at HS hlen HCUT
    obtain ⟨m, hm⟩ : ∃ m, M.length = m := ⟨_, rfl⟩
    rw [hm] at hlen HCUT
    rw [hn] at hlen he1 he9
    have hm5 : n + 5 ≤ m := by omega
    have hm9 : m ≤ 200 := by omega
    have HM := Lib.hid hm
    clear hlen he1 he9 hM hm ha hn
    go_enter Try.func8, Try.ntmps8
    go_wp2_with fail
    refine HS.out.mono ?_
    rintro e w1 ⟨B, q, d, rfl, hq, o1, b1⟩
    obtain rfl : m = q := HM.out.symm.trans hq.out
    have R1 := Lib.hid o1.rb.1
    have hd := o1.rb.1.le
    have hdm := o1.rb.1.max
    unfold maxLen at hdm
    rw [HM.out] at hd
    have B1 := Lib.hid b1
    clear HS o1 b1 hq
    go_wp2
    go_loopw [4] (fun vi wr => ∃ k : Nat, k ≤ m ∧ vi = .int .i64 k ∧ Below w1.heap.size w1 wr) (fun vi _ => m - (intOf vi).toNat)
    case atStart => exact ⟨0, Nat.zero_le _, rfl, Below.refl _ _⟩
    case round =>
      obtain ⟨k, hk, rfl, hb⟩ := hrel
      by_cases hlt : k < m
      · have hcut := cutH B m d k (by omega) k rfl
        have HC := Lib.hid (iOpen (M.take k) k (by rw [List.length_take, HM.out]; omega) (by omega) B d wr ((R1.out.below hb).take k (by rw [HM.out]; omega)))
        obtain ⟨e1, e2, e3⟩ := HCUT.out k hlt
        rw [e1, e2, e3] at HC
        clear e1 e2 e3
        go_wp2_with fail
        refine HC.out.mono ?_
        rintro e w2 ⟨A1, q1, c1, A2, q2, c2, rfl, h1, h2, _, _, b2⟩
        obtain rfl : 0 = q1 := h1.out
        obtain rfl : 0 = q2 := h2.out
        go_wp2
        go_roundw
        case rel => exact ⟨k + 1, by omega, by go_num, belowThen hb b2⟩
        case measure => simp [intOf]; omega
      · have HL := Lib.hid (livesOk wr)
        go_wp2_with fail
        refine HL.out.mono ?_
        rintro e w2 ⟨rfl, b2⟩
        go_wp2
        go_ret
        exact ⟨rfl, belowThen B1.out (belowThen hb b2)⟩
end Go.Proofs.Ytcbipokohjajoaa
