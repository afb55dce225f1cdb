/-
  The checksum of a list of bytes as arithmetic of natural numbers under exclusive or, without any program: a change within 32 bits is seen.
-/
namespace Go.Proofs.Ytcbipokohjajoaa

/-- One step of the register. -/
def tC (r : Nat) : Nat := r / 2 ^^^ (if r % 2 = 1 then 3988292384 else 0)
def tN : Nat → Nat → Nat
  | 0, r => r
  | k + 1, r => tN k (tC r)
theorem tBit (r i : Nat) : (tC r).testBit i = (r.testBit (i + 1) ^^ (r.testBit 0 && Nat.testBit 3988292384 i)) := by
  unfold tC
  rw [Nat.testBit_xor, Nat.testBit_add_one]
  congr 1
  rw [Nat.testBit_zero]
  by_cases h : r % 2 = 1
  · rw [if_pos h, decide_eq_true h, Bool.true_and]
  · rw [if_neg h, decide_eq_false h, Bool.false_and, Nat.zero_testBit]
theorem tXor (a b : Nat) : tC (a ^^^ b) = tC a ^^^ tC b := by
  apply Nat.eq_of_testBit_eq
  intro i
  rw [Nat.testBit_xor, tBit, tBit, tBit, Nat.testBit_xor, Nat.testBit_xor]
  cases a.testBit (i + 1) <;> cases b.testBit (i + 1) <;> cases a.testBit 0 <;> cases b.testBit 0 <;> cases Nat.testBit 3988292384 i <;> rfl
theorem tLt {r : Nat} (h : r < 4294967296) : tC r < 4294967296 := by
  unfold tC
  exact Nat.xor_lt_two_pow (n := 32) (by omega) (by split <;> omega)
theorem tZero {r : Nat} (h : r < 4294967296) (h0 : tC r = 0) : r = 0 := by
  unfold tC at h0
  split at h0
  · have e : r / 2 = 3988292384 := by
      have := congrArg (· ^^^ 3988292384) h0
      simpa [Nat.xor_assoc] using this
    omega
  · simp at h0; omega
theorem tTwice (x : Nat) : tC (2 * x) = x := by
  unfold tC
  rw [if_neg (by omega), Nat.xor_zero]; omega
theorem tnXor : ∀ (k a b : Nat), tN k (a ^^^ b) = tN k a ^^^ tN k b
  | 0, _, _ => rfl
  | k + 1, a, b => by simp only [tN]; rw [tXor, tnXor k]
theorem tnZero : ∀ k, tN k 0 = 0
  | 0 => rfl
  | k + 1 => by simp only [tN]; exact tnZero k
theorem tnLt : ∀ (k : Nat) {r : Nat}, r < 4294967296 → tN k r < 4294967296
  | 0, _, h => h
  | k + 1, _, h => tnLt k (tLt h)
theorem tnNe : ∀ (k : Nat) {r : Nat}, r < 4294967296 → tN k r = 0 → r = 0
  | 0, _, _, h => h
  | k + 1, _, h, h0 => tZero h (tnNe k (tLt h) h0)
theorem tnPow : ∀ (k j x : Nat), k ≤ j → tN k (x * 2 ^ j) = x * 2 ^ (j - k)
  | 0, _, _, _ => rfl
  | k + 1, j, x, h => by
    simp only [tN]
    have e : x * 2 ^ j = 2 * (x * 2 ^ (j - 1)) := by
      rw [show j = (j - 1) + 1 by omega, Nat.pow_succ, show j - 1 + 1 - 1 = j - 1 by omega]
      rw [← Nat.mul_assoc, Nat.mul_comm]
    rw [e, tTwice, tnPow k (j - 1) x (by omega)]
    congr 2; omega
theorem tnAdd : ∀ (k j r : Nat), tN (k + j) r = tN j (tN k r)
  | 0, j, r => by rw [Nat.zero_add]; rfl
  | k + 1, j, r => by rw [show k + 1 + j = (k + j) + 1 by omega]; simp only [tN]; exact tnAdd k j _

/-- The bytes as one number, the first byte the least significant. -/
def le : List UInt8 → Nat
  | [] => 0
  | c :: t => c.toNat ^^^ (le t * 2 ^ 8)
theorem shlXor (a b k : Nat) : (a ^^^ b) * 2 ^ k = a * 2 ^ k ^^^ b * 2 ^ k := by
  rw [← Nat.shiftLeft_eq, ← Nat.shiftLeft_eq, ← Nat.shiftLeft_eq, Nat.shiftLeft_xor_distrib]
theorem leAppend : ∀ (l m : List UInt8), le (l ++ m) = le l ^^^ le m * 2 ^ (8 * l.length)
  | [], m => by simp [le]
  | c :: t, m => by
    simp only [List.cons_append, le, List.length_cons]
    rw [leAppend t m, shlXor, Nat.xor_assoc, Nat.mul_assoc, ← Nat.pow_add]
    congr 3
theorem leSet : ∀ (l : List UInt8) (i : Nat) (c d : UInt8), l[i]? = some c → le (l.set i (c ^^^ d)) = le l ^^^ d.toNat * 2 ^ (8 * i)
  | [], _, _, _, h => by simp at h
  | a :: t, 0, c, d, h => by
    simp at h; subst h
    simp only [List.set_cons_zero, le, UInt8.toNat_xor, Nat.mul_zero, Nat.pow_zero, Nat.mul_one]
    rw [Nat.xor_assoc, Nat.xor_assoc, Nat.xor_comm d.toNat]
  | a :: t, i + 1, c, d, h => by
    simp only [List.set_cons_succ, le]
    rw [leSet t i c d (by simpa using h), shlXor, Nat.xor_assoc, Nat.mul_assoc, ← Nat.pow_add]
    congr 3
theorem leBits (c : UInt8) (x i : Nat) : (c.toNat ^^^ (x * 2 ^ 8)).testBit i = if i < 8 then c.toNat.testBit i else x.testBit (i - 8) := by
  have hc : c.toNat < 2 ^ 8 := UInt8.toNat_lt c
  rw [Nat.testBit_xor, Nat.testBit_mul_two_pow]
  split
  · rename_i h; rw [decide_eq_false (by omega)]; simp
  · rename_i h
    rw [Nat.testBit_lt_two_pow (Nat.lt_of_lt_of_le hc (Nat.pow_le_pow_right (by omega) (by omega))), decide_eq_true (by omega)]; simp
theorem leInj : ∀ (l m : List UInt8), l.length = m.length → le l = le m → l = m
  | [], [], _, _ => rfl
  | [], _ :: _, h, _ => by simp at h
  | _ :: _, [], h, _ => by simp at h
  | c :: t, d :: u, h, e => by
    simp only [le] at e
    have e1 : c = d := by
      apply UInt8.toNat_inj.1
      apply Nat.eq_of_testBit_eq
      intro i
      by_cases hi : i < 8
      · have := congrArg (fun n => n.testBit i) e
        simp only [leBits, if_pos hi] at this
        exact this
      · rw [Nat.testBit_lt_two_pow (Nat.lt_of_lt_of_le (UInt8.toNat_lt c) (Nat.pow_le_pow_right (n := 2) (i := 8) (by omega) (by omega))), Nat.testBit_lt_two_pow (Nat.lt_of_lt_of_le (UInt8.toNat_lt d) (Nat.pow_le_pow_right (n := 2) (i := 8) (by omega) (by omega)))]
    have e2 : le t = le u := by
      apply Nat.eq_of_testBit_eq
      intro i
      have := congrArg (fun n => n.testBit (i + 8)) e
      simp only [leBits, if_neg (show ¬ i + 8 < 8 by omega), Nat.add_sub_cancel] at this
      exact this
    rw [e1, leInj t u (by simpa using h) e2]
/-- The register behind the bytes. -/
def reg : Nat → List UInt8 → Nat
  | r, [] => r
  | r, c :: t => reg (tN 8 (r ^^^ c.toNat)) t
theorem regEq : ∀ (l : List UInt8) (r : Nat), reg r l = tN (8 * l.length) (r ^^^ le l)
  | [], r => by simp [reg, le, tN]
  | c :: t, r => by
    simp only [reg, le, List.length_cons]
    rw [regEq t, show 8 * (t.length + 1) = 8 + 8 * t.length by omega, tnAdd, ← Nat.xor_assoc, tnXor 8 (r ^^^ c.toNat), tnPow 8 8 _ (Nat.le_refl _)]
    simp
theorem regLt : ∀ (l : List UInt8) {r : Nat}, r < 4294967296 → reg r l < 4294967296
  | [], _, h => h
  | c :: t, r, h => by
    simp only [reg]
    exact regLt t (tnLt 8 (Nat.xor_lt_two_pow (n := 32) h (Nat.lt_of_lt_of_le (UInt8.toNat_lt c) (by omega))))
theorem regSnoc : ∀ (l : List UInt8) (r : Nat) (c : UInt8), reg r (l ++ [c]) = tN 8 (reg r l ^^^ c.toNat)
  | [], _, _ => rfl
  | _ :: t, _, c => by simp only [List.cons_append, reg]; exact regSnoc t _ c
theorem regApp : ∀ (l m : List UInt8) (r : Nat), reg r (l ++ m) = reg (reg r l) m
  | [], _, _ => rfl
  | _ :: t, m, _ => by simp only [List.cons_append, reg]; exact regApp t m _
/-- The checksum. -/
def crc (l : List UInt8) : Nat := reg 4294967295 l ^^^ 4294967295
theorem crcLt (l : List UInt8) : crc l < 4294967296 := Nat.xor_lt_two_pow (n := 32) (regLt l (by omega)) (by omega)
/-- The four bytes of a checksum. -/
def sumB (s : Nat) : List UInt8 := [UInt8.ofNat s, UInt8.ofNat (s / 256), UInt8.ofNat (s / 65536), UInt8.ofNat (s / 16777216)]
theorem xorAdd {a b : Nat} (k : Nat) (h : a < 2 ^ k) : a ^^^ b * 2 ^ k = a + b * 2 ^ k := by
  apply Nat.eq_of_testBit_eq
  intro i
  rw [Nat.testBit_xor, Nat.testBit_mul_two_pow, Nat.add_comm, Nat.mul_comm, Nat.testBit_two_pow_mul_add _ h]
  split
  · rename_i hi; rw [decide_eq_false (by omega)]; simp
  · rename_i hi
    rw [Nat.testBit_lt_two_pow (Nat.lt_of_lt_of_le h (Nat.pow_le_pow_right (by omega) (by omega))), decide_eq_true (by omega)]; simp
theorem leCons (c : UInt8) (t : List UInt8) : le (c :: t) = c.toNat + le t * 256 := by
  simp only [le]; exact xorAdd 8 (UInt8.toNat_lt c)
theorem leSum {s : Nat} (h : s < 4294967296) : le (sumB s) = s := by
  unfold sumB
  simp only [leCons, UInt8.toNat_ofNat']
  simp only [le]; omega
theorem sumLe : ∀ (l : List UInt8), l.length = 4 → sumB (le l) = l
  | [a, b, c, d], _ => by
    have h : le (sumB (le [a, b, c, d])) = le [a, b, c, d] := leSum (by
      rw [leCons, leCons, leCons, leCons]
      have e : le [] = 0 := rfl
      rw [e]
      have := UInt8.toNat_lt a; have := UInt8.toNat_lt b; have := UInt8.toNat_lt c; have := UInt8.toNat_lt d; omega)
    exact leInj _ _ rfl h
/-- A list with its own checksum behind it leads to one register alone. -/
theorem regSealed {l s : List UInt8} (hs : s = sumB (crc l)) : reg 4294967295 (l ++ s) = tN 32 4294967295 := by
  subst hs
  rw [regApp, regEq, leSum (crcLt l)]
  show tN 32 _ = _
  congr 1
  unfold crc
  rw [← Nat.xor_assoc, Nat.xor_self, Nat.zero_xor]
theorem xorInj {a b : Nat} (h : a ^^^ b = a) : b = 0 := by
  have := congrArg (a ^^^ ·) h
  simpa [← Nat.xor_assoc] using this
/-- A change within 32 bits of a list that ends in its checksum is seen. -/
theorem burst {l s l' s' : List UInt8} {x p : Nat} (hs : s = sumB (crc l)) (hlen : (l ++ s).length = (l' ++ s').length) (he : le (l' ++ s') = le (l ++ s) ^^^ x * 2 ^ p) (hx : x < 4294967296) (h0 : x ≠ 0) (hp : p ≤ 8 * (l ++ s).length) : s' ≠ sumB (crc l') := by
  intro hs'
  have h1 := regSealed hs
  have h2 := regSealed hs'
  rw [regEq] at h1 h2
  rw [← hlen, he, ← Nat.xor_assoc, tnXor, h1] at h2
  have h3 := xorInj h2
  rw [show 8 * (l ++ s).length = p + (8 * (l ++ s).length - p) by omega, tnAdd, tnPow p p _ (Nat.le_refl _), Nat.sub_self, Nat.pow_zero, Nat.mul_one] at h3
  exact h0 (tnNe _ hx h3)
end Go.Proofs.Ytcbipokohjajoaa
