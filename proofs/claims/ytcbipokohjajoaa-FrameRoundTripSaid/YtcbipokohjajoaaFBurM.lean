/-
  A frame whose bits have been changed within 32 consecutive bits of the payload or the checksum, without any program; a frame that is opened.
-/
import Derived.Test.YtcbipokohjajoaaFrmL
namespace Go.Proofs.Ytcbipokohjajoaa

/-- Opening a list that begins with the encoding of n and goes on with r. -/
theorem openParts {n : Nat} {r : List UInt8} (hn : n ≤ 1000) : errU (encL n ++ r) = 0 ∧ valU (encL n ++ r) = n ∧ resU (encL n ++ r) = r ∧ sumAt (encL n ++ r) = (encL n).length + n := by
  obtain ⟨h1, h2, h3⟩ := errEnc (n := n) (by omega) r
  refine ⟨h1, h2, h3, ?_⟩
  unfold sumAt
  rw [h2, h3, List.length_append]; omega
theorem takeSum {e r : List UInt8} {n : Nat} : (e ++ r).take (e.length + n) = e ++ r.take n := by rw [List.take_append, List.take_of_length_le (by omega), show e.length + n - e.length = n by omega]
theorem dropSum {e r : List UInt8} {n : Nat} : (e ++ r).drop (e.length + n) = r.drop n := by rw [List.drop_append, List.drop_eq_nil_of_le (by omega), show e.length + n - e.length = n by omega, List.nil_append]
/-- A frame with bytes behind it opens as its payload and these bytes. -/
theorem openSeal {p : List UInt8} (hp : p.length ≤ 1000) (r : List UInt8) : errO (sealL p ++ r) = 0 ∧ payO (sealL p ++ r) = p ∧ aftO (sealL p ++ r) = r := by
  have hs : sealL p ++ r = encL p.length ++ (p ++ (sumB (crc (encL p.length ++ p)) ++ r)) := by unfold sealL; simp only [List.append_assoc]
  have h4 : (sumB (crc (encL p.length ++ p))).length = 4 := rfl
  obtain ⟨h1, h2, h3, h5⟩ := openParts (n := p.length) (r := p ++ (sumB (crc (encL p.length ++ p)) ++ r)) hp
  rw [← hs] at h1 h2 h3 h5
  have he : errO (sealL p ++ r) = 0 := by
    unfold errO
    rw [if_neg (by omega), if_neg (by rw [h2, h3]; simp only [List.length_append, h4]; omega), if_neg]
    rw [h5, hs, takeSum, dropSum]
    simp only [List.take_left, List.drop_left]
    rw [List.take_append_of_le_length (by omega), List.take_of_length_le (by omega)]
    simp
  refine ⟨he, ?_, ?_⟩
  · unfold payO; rw [if_pos he, h2, h3, List.take_left]
  · unfold aftO; rw [if_pos he, h5, hs, ← List.drop_drop, dropSum, List.drop_left, ← h4, List.drop_left]
/-- A changed frame. -/
theorem burstErr {p r : List UInt8} (hp : p.length ≤ 1000) (hr : r.length = p.length + 4) {x a : Nat} (he : le (encL p.length ++ r) = le (sealL p) ^^^ x * 2 ^ a) (hx : x < 4294967296) (h0 : x ≠ 0) (ha : a ≤ 8 * (sealL p).length) : errO (encL p.length ++ r) = 21 ∧ payO (encL p.length ++ r) = [] := by
  obtain ⟨h1, h2, h3, h5⟩ := openParts (n := p.length) (r := r) hp
  have hE : errO (encL p.length ++ r) = 21 := by
    unfold errO
    rw [if_neg (by omega), if_neg (by rw [h2, h3]; omega), if_pos]
    rw [h5, takeSum, dropSum, List.take_of_length_le (by rw [List.length_drop]; omega)]
    have h6 : (encL p.length ++ r.take p.length) ++ r.drop p.length = encL p.length ++ r := by rw [List.append_assoc, List.take_append_drop]
    refine burst (l := encL p.length ++ p) (s := sumB (crc (encL p.length ++ p))) (x := x) (p := a) rfl ?_ ?_ hx h0 ha
    · rw [h6]; simp only [List.length_append, hr]; rfl
    · rw [h6, he]; rfl
  exact ⟨hE, by unfold payO; rw [if_neg (by omega)]⟩
/-- A frame that is unchanged. -/
theorem burstNot {p r : List UInt8} (hr : r.length = p.length + 4) {a : Nat} (he : le (encL p.length ++ r) = le (sealL p) ^^^ 0 * 2 ^ a) : encL p.length ++ r = sealL p := by
  rw [Nat.zero_mul, Nat.xor_zero] at he
  refine leInj _ _ ?_ he
  unfold sealL
  simp only [List.length_append, hr]
  have : (sumB (crc (encL p.length ++ p))).length = 4 := rfl
  omega
/-- One more bit. -/
theorem bitNext {b k : Nat} : b % 2 ^ (k + 1) = b % 2 ^ k + (b / 2 ^ k % 2) * 2 ^ k := by
  rw [Nat.pow_succ, Nat.mod_mul, Nat.mul_comm]
theorem bitSet {s : Nat} {b k a : Nat} {x : Nat} (h : b / 2 ^ k % 2 = 1) (he : s = x ^^^ (b % 2 ^ k) * 2 ^ a) : s ^^^ 2 ^ (a + k) = x ^^^ (b % 2 ^ (k + 1)) * 2 ^ a := by
  have h1 : b % 2 ^ k ^^^ 1 * 2 ^ k = b % 2 ^ k + 1 * 2 ^ k := xorAdd k (Nat.mod_lt _ (Nat.pow_pos (by omega)))
  rw [he, bitNext, h, ← h1, shlXor, Nat.xor_assoc]
  congr 2
  rw [Nat.one_mul, Nat.pow_add, Nat.mul_comm]
theorem bitNot {b k : Nat} (h : b / 2 ^ k % 2 = 0) : b % 2 ^ (k + 1) = b % 2 ^ k := by rw [bitNext, h]; simp
theorem bitPos {b k : Nat} (h : b / 2 ^ k % 2 = 1) : b % 2 ^ (k + 1) ≠ 0 := by
  rw [bitNext, h]
  have : 0 < 2 ^ k := Nat.pow_pos (by omega)
  omega
/-- The byte with one bit turned, in its place. -/
theorem setPart {e r : List UInt8} {i : Nat} {v : UInt8} : (e ++ r).set (e.length + i) v = e ++ r.set i v := by rw [List.set_append_right _ _ (by omega), show e.length + i - e.length = i by omega]
theorem leTurn {e r : List UInt8} {t : Nat} {c : UInt8} (hc : r[t / 8]? = some c) : le (e ++ r.set (t / 8) (c ^^^ UInt8.ofNat (2 ^ (t % 8)))) = le (e ++ r) ^^^ 2 ^ (8 * e.length + t) := by
  rw [← setPart]
  have hg : (e ++ r)[e.length + t / 8]? = some c := by rw [List.getElem?_append_right (by omega), show e.length + t / 8 - e.length = t / 8 by omega, hc]
  rw [leSet _ _ c _ hg]
  congr 1
  have h8 : t % 8 < 8 := Nat.mod_lt _ (by omega)
  have h2 : 2 ^ (t % 8) < 256 := Nat.lt_of_lt_of_le (Nat.pow_lt_pow_right (by omega) h8) (by omega)
  rw [UInt8.toNat_ofNat', Nat.mod_eq_of_lt h2, ← Nat.pow_add]
  congr 1; omega
end Go.Proofs.Ytcbipokohjajoaa
