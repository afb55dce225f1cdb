/-
  The encoding of slices, strings and frames, and decoding them, without any program.
-/
import Derived.Test.YtcbipokohjajoaaFrmM
import Derived.Test.YtcbipokohjajoaaFrmC
namespace Go.Proofs.Ytcbipokohjajoaa

/-- The error of decoding a length that is at most most. -/
def errD (l : List UInt8) (most : Int) : Nat := if errU l = 0 ∧ max most 0 < (valU l : Int) then 4 else errU l
/-- Decoding k signed integers: the integers, the bytes behind them, the error. -/
def ints : Nat → List UInt8 → List Int × List UInt8 × Nat
  | 0, l => ([], l, 0)
  | k + 1, l => if errU l = 0 then (if (ints k (resU l)).2.2 = 0 then (sgn (valU l) :: (ints k (resU l)).1, (ints k (resU l)).2.1, 0) else ([], [], (ints k (resU l)).2.2)) else ([], [], errU l)
/-- What was decoded before, and the rest. -/
def comb (p : List Int) (t : List Int × List UInt8 × Nat) : List Int × List UInt8 × Nat := if t.2.2 = 0 then (p ++ t.1, t.2.1, 0) else ([], [], t.2.2)
theorem intsErr {k : Nat} {l : List UInt8} (h : errU l ≠ 0) : ints (k + 1) l = ([], [], errU l) := by simp [ints, h]
theorem intsOk {k : Nat} {l : List UInt8} (h : errU l = 0) : ints (k + 1) l = if (ints k (resU l)).2.2 = 0 then (sgn (valU l) :: (ints k (resU l)).1, (ints k (resU l)).2.1, 0) else ([], [], (ints k (resU l)).2.2) := by simp [ints, h]
theorem combNil : ∀ (k : Nat) (l : List UInt8), comb [] (ints k l) = ints k l
  | 0, l => by simp [comb, ints]
  | k + 1, l => by
    unfold comb
    by_cases h : errU l = 0
    · rw [intsOk h]
      by_cases h2 : (ints k (resU l)).2.2 = 0
      · simp [h2]
      · simp [h2]
    · rw [intsErr h]; simp [h]
theorem combZero (p : List Int) (l : List UInt8) : comb p (ints 0 l) = (p, l, 0) := by simp [comb, ints]
theorem combErr {p : List Int} {k : Nat} {l : List UInt8} (h : errU l ≠ 0) : comb p (ints (k + 1) l) = ([], [], errU l) := by
  unfold comb; rw [intsErr h]; simp [h]
theorem combNext {p : List Int} {k : Nat} {l : List UInt8} (h : errU l = 0) : comb p (ints (k + 1) l) = comb (p ++ [sgn (valU l)]) (ints k (resU l)) := by
  unfold comb
  rw [intsOk h]
  by_cases h2 : (ints k (resU l)).2.2 = 0
  · simp [h2]
  · simp [h2]
/-- Decoding a slice. -/
def intsD (l : List UInt8) (most : Int) : List Int × List UInt8 × Nat := if errD l most = 0 then ints (valU l) (resU l) else ([], [], errD l most)
/-- Encoding a slice behind l. -/
def appIs (l : List UInt8) (L : List Int) : List UInt8 := if L.all fitS then l ++ encL L.length ++ L.flatMap encS else l
/-- Decoding a string: the error, the string, the bytes behind it. -/
def errT (l : List UInt8) (most : Int) : Nat := if errD l most ≠ 0 then errD l most else if (resU l).length < valU l then 22 else 0
def strT (l : List UInt8) (most : Int) : List UInt8 := if errT l most = 0 then (resU l).take (valU l) else []
def resT (l : List UInt8) (most : Int) : List UInt8 := if errT l most = 0 then (resU l).drop (valU l) else []
/-- The frame of a payload. -/
def sealL (p : List UInt8) : List UInt8 := encL p.length ++ p ++ sumB (crc (encL p.length ++ p))
/-- Where the checksum of the frame at the beginning of l lies. -/
def sumAt (l : List UInt8) : Nat := l.length - (resU l).length + valU l
def errO (l : List UInt8) : Nat :=
  if errU l ≠ 0 then errU l else if (resU l).length < valU l + 4 then 22 else if (l.drop (sumAt l)).take 4 ≠ sumB (crc (l.take (sumAt l))) then 21 else 0
def payO (l : List UInt8) : List UInt8 := if errO l = 0 then (resU l).take (valU l) else []
def aftO (l : List UInt8) : List UInt8 := if errO l = 0 then l.drop (sumAt l + 4) else []
theorem sumAtLe {l : List UInt8} (h2 : valU l + 4 ≤ (resU l).length) : sumAt l + 4 ≤ l.length := by
  have := resLenLe l
  unfold sumAt; omega
theorem resDrop {l : List UInt8} (h : errU l = 0) (k : Nat) : (resU l).drop k = l.drop (l.length - (resU l).length + k) := by
  have h2 := (decEnc h).2.2.1
  have e : resU l = l.drop (dn l + 1) := by unfold resU; rw [if_pos h]
  have e2 : l.length - (resU l).length = dn l + 1 := by rw [e, List.length_drop]; omega
  rw [e2, e, List.drop_drop]
end Go.Proofs.Ytcbipokohjajoaa
