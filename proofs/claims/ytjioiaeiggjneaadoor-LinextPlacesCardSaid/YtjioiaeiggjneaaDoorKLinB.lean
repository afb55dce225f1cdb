/-
  Sets of numbers as bit masks of 64 bits: what their operations are, their members in order.
-/
import Derived.Test.YtjioiaeiggjneaaDoorKLinM
import Derived.Laws.Bits64
import Derived.Laws.Bits64b
import Derived.Lib.TrailingZeros
import Derived.Shelf.Spec.TrailingZeros
namespace Go.Proofs.YtjioiaeiggjneaaDoor
open Go

/-- 2 to the 64. -/
abbrev B64 : Nat := 18446744073709551616
theorem b64Pow : B64 = 2 ^ 64 := by decide
theorem powLt {a : Nat} (h : a < 64) : 2 ^ a < B64 := by rw [b64Pow]; exact Nat.pow_lt_pow_right (by omega) h
theorem wrapPow {a : Nat} (h : a < 64) : IntKind.u64.wrap (2 ^ a) = ((2 ^ a : Nat) : Int) := by
  have h1 := powLt h
  have e : (2 : Int) ^ a = ((2 ^ a : Nat) : Int) := by simp
  have h2 : 2 ^ a < 18446744073709551616 := h1
  rw [e, IntKind.wrap_u64]
  generalize 2 ^ a = x at h2 ⊢
  omega
theorem addLt {s a : Nat} (hs : s < B64) (ha : a < 64) : addS s a < B64 := by
  rw [b64Pow] at *
  exact Nat.or_lt_two_pow hs (Nat.pow_lt_pow_right (by omega) ha)
theorem bitLt {s i : Nat} (hs : s < B64) (h : s.testBit i = true) : i < 64 := by
  by_cases hi : i < 64
  · exact hi
  · have : s < 2 ^ i := Nat.lt_of_lt_of_le (b64Pow ▸ hs) (Nat.pow_le_pow_right (by omega) (by omega))
    rw [Nat.testBit_lt_two_pow this] at h; cases h
/-- a without b. -/
def subS (a b : Nat) : Nat := (BitVec.ofNat 64 a &&& ~~~(BitVec.ofNat 64 b)).toNat
theorem subLt (a b : Nat) : subS a b < B64 := (BitVec.ofNat 64 a &&& ~~~(BitVec.ofNat 64 b)).isLt
theorem subBit {a b : Nat} (ha : a < B64) (i : Nat) : (subS a b).testBit i = (a.testBit i && !b.testBit i) := by
  unfold subS
  rw [BitVec.toNat_and, Nat.testBit_and, BitVec.toNat_ofNat, Nat.mod_eq_of_lt (b64Pow ▸ ha)]
  by_cases hi : i < 64
  · rw [BitVec.testBit_toNat, BitVec.getLsbD_not, BitVec.getLsbD_ofNat]
    simp [hi]
  · have h1 : a.testBit i = false := by
      cases e : a.testBit i
      · rfl
      · exact absurd (bitLt ha e) hi
    rw [h1, Bool.false_and, Bool.false_and]
theorem bitsAndNot {a b : Nat} : bits .andNot .u64 (a : Int) (b : Int) = ((subS a b : Nat) : Int) := by
  have h1 : BitVec.ofInt 64 (a : Int) = BitVec.ofNat 64 a := BitVec.ofInt_natCast 64 a
  have h2 : BitVec.ofInt 64 (b : Int) = BitVec.ofNat 64 b := BitVec.ofInt_natCast 64 b
  show IntKind.u64.wrap ((BitVec.ofInt 64 (a : Int) &&& ~~~(BitVec.ofInt 64 (b : Int))).toNat : Int) = _
  rw [h1, h2, IntKind.wrap_u64]
  have := subLt a b
  unfold subS at this ⊢
  omega
theorem bitsOr {s a : Nat} (hs : s < B64) (ha : a < 64) : bits .or .u64 (s : Int) (IntKind.u64.wrap (2 ^ a)) = ((addS s a : Nat) : Int) := by
  rw [wrapPow ha, bits_or_u64_nat s _ hs (powLt ha)]; rfl
/-- s without the number a. -/
def rmS (s a : Nat) : Nat := subS s (2 ^ a)
theorem rmBit {s a : Nat} (hs : s < B64) (i : Nat) : (rmS s a).testBit i = (s.testBit i && !decide (a = i)) := by
  unfold rmS
  rw [subBit hs, Nat.testBit_two_pow]
theorem bitsRm {s a : Nat} (ha : a < 64) : bits .andNot .u64 (s : Int) (IntKind.u64.wrap (2 ^ a)) = ((rmS s a : Nat) : Int) := by
  rw [wrapPow ha, bitsAndNot]; rfl
theorem bitsHas {s : Nat} (hs : s < B64) (a : Int) : (bits .and .u64 ((s : Int) / 2 ^ min a.toNat 64) 1 == 1) = s.testBit a.toNat := by
  have e : (s : Int) / 2 ^ min a.toNat 64 = ((s / 2 ^ min a.toNat 64 : Nat) : Int) := by simp
  have hlt : s / 2 ^ min a.toNat 64 < 18446744073709551616 := Nat.lt_of_le_of_lt (Nat.div_le_self _ _) hs
  have h1 := bits_and_u64_nat (s / 2 ^ min a.toNat 64) 1 hlt (by omega)
  rw [e]
  rw [show ((1 : Nat) : Int) = 1 from rfl] at h1
  rw [h1, Nat.and_one_is_mod]
  have h2 : s.testBit a.toNat = decide (s / 2 ^ min a.toNat 64 % 2 = 1) := by
    by_cases h : a.toNat ≤ 64
    · rw [Nat.min_eq_left h, Nat.testBit_eq_decide_div_mod_eq]
    · rw [Nat.min_eq_right (by omega), Nat.div_eq_of_lt (b64Pow ▸ hs)]
      cases e : s.testBit a.toNat
      · rfl
      · have := bitLt hs e; omega
  rw [h2, Bool.eq_iff_iff, beq_iff_eq, decide_eq_true_iff]
  omega
/-- The numbers below N. -/
def fullS (N : Nat) : Nat := 2 ^ N - 1
theorem fullBit {N i : Nat} : (fullS N).testBit i = decide (i < N) := Nat.testBit_two_pow_sub_one N i
theorem fullLt {N : Nat} (h : N ≤ 64) : fullS N < B64 := by
  unfold fullS
  have h1 : 2 ^ N ≤ 2 ^ 64 := Nat.pow_le_pow_right (by omega) h
  have h2 : 0 < 2 ^ N := Nat.pow_pos (by omega)
  rw [b64Pow]
  omega
theorem wrapFull {N : Nat} (h : N ≤ 64) : IntKind.u64.wrap (IntKind.u64.wrap (2 ^ min N 64) - 1) = ((fullS N : Nat) : Int) := by
  rw [Nat.min_eq_left h]
  have e : (2 : Int) ^ N = ((2 ^ N : Nat) : Int) := by simp
  have h2 : 0 < 2 ^ N := Nat.pow_pos (by omega)
  rw [e, IntKind.wrap_u64, IntKind.wrap_u64]
  unfold fullS
  rcases Nat.lt_or_ge N 64 with hN | hN
  · have h1 : 2 ^ N < 18446744073709551616 := powLt hN
    omega
  · obtain rfl : N = 64 := by omega
    decide
/-! Members in order. -/
theorem sortedExt : ∀ {l m : List Nat}, l.Pairwise (· < ·) → m.Pairwise (· < ·) → (∀ x, x ∈ l ↔ x ∈ m) → l = m
  | [], [], _, _, _ => rfl
  | [], y :: m, _, _, h => absurd ((h y).2 (by simp)) (by simp)
  | x :: l, [], _, _, h => absurd ((h x).1 (by simp)) (by simp)
  | x :: l, y :: m, hl, hm, h => by
    rw [List.pairwise_cons] at hl hm
    have e : x = y := by
      rcases List.mem_cons.1 ((h x).1 (by simp)) with h1 | h1
      · exact h1
      · rcases List.mem_cons.1 ((h y).2 (by simp)) with h2 | h2
        · exact h2.symm
        · have := hm.1 x h1; have := hl.1 y h2; omega
    subst e
    rw [sortedExt hl.2 hm.2 fun z => ?_]
    constructor
    · intro hz
      rcases List.mem_cons.1 ((h z).1 (List.mem_cons_of_mem _ hz)) with rfl | h2
      · have := hl.1 z hz; omega
      · exact h2
    · intro hz
      rcases List.mem_cons.1 ((h z).2 (List.mem_cons_of_mem _ hz)) with rfl | h2
      · have := hm.1 z hz; omega
      · exact h2
def bitsOf (s : Nat) : List Nat := (List.range 64).filter fun i => s.testBit i
theorem bitsMem {s i : Nat} (hs : s < B64) : i ∈ bitsOf s ↔ s.testBit i = true := by
  unfold bitsOf
  rw [List.mem_filter, List.mem_range]
  exact ⟨fun h => h.2, fun h => ⟨bitLt hs h, h⟩⟩
theorem bitsSorted (s : Nat) : (bitsOf s).Pairwise (· < ·) := List.pairwise_lt_range.filter _
theorem bitsLen (s : Nat) : (bitsOf s).length ≤ 64 := by
  have := List.length_filter_le (fun i => s.testBit i) (List.range 64)
  rw [List.length_range] at this
  exact this
theorem bitsZero : bitsOf 0 = [] := by
  unfold bitsOf
  rw [List.filter_eq_nil_iff]
  intro a _
  simp
/-- The lowest member. -/
def lowS (s : Nat) : Nat := Lib.ctz 64 s
theorem lowIs {s : Nat} (hs : s < B64) (h0 : s ≠ 0) : lowS s < 64 ∧ s.testBit (lowS s) = true ∧ ∀ i, i < lowS s → s.testBit i = false := by
  obtain ⟨m, h1, h2⟩ := Lib.ctzFrom_spec 64 s (by omega) (b64Pow ▸ hs)
  have e : lowS s = Lib.ctzFrom 64 s := by unfold lowS Lib.ctz; rw [if_neg h0]
  rw [e]
  obtain ⟨k, hk⟩ : ∃ k, Lib.ctzFrom 64 s = k := ⟨_, rfl⟩
  rw [hk] at h1 h2 ⊢
  refine ⟨h2, ?_, fun i hi => ?_⟩
  · rw [h1, Nat.testBit_two_pow_mul, decide_eq_true (Nat.le_refl k), Nat.sub_self, Bool.true_and, Nat.testBit_zero]
    simp
  · rw [h1, Nat.testBit_two_pow_mul, decide_eq_false (by omega), Bool.false_and]
theorem bitsCons {s : Nat} (hs : s < B64) (h0 : s ≠ 0) : bitsOf s = lowS s :: bitsOf (rmS s (lowS s)) := by
  obtain ⟨h1, h2, h3⟩ := lowIs hs h0
  have hr : rmS s (lowS s) < B64 := subLt _ _
  refine sortedExt (bitsSorted s) (List.pairwise_cons.2 ⟨fun y hy => ?_, bitsSorted _⟩) fun x => ?_
  · rw [bitsMem hr, rmBit hs, Bool.and_eq_true, Bool.not_eq_true', decide_eq_false_iff_not] at hy
    rcases Nat.lt_or_ge y (lowS s) with h | h
    · rw [h3 y h] at hy; cases hy.1
    · have := hy.2; omega
  · rw [bitsMem hs, List.mem_cons, bitsMem hr, rmBit hs, Bool.and_eq_true, Bool.not_eq_true', decide_eq_false_iff_not]
    constructor
    · intro h
      by_cases e : lowS s = x
      · exact .inl e.symm
      · exact .inr ⟨h, e⟩
    · rintro (rfl | h)
      · exact h2
      · exact h.1
/-! Masks of lists. -/
def maskL (l : List Nat) : Nat := l.foldl addS 0
theorem maskApp (l : List Nat) (a : Nat) : maskL (l ++ [a]) = addS (maskL l) a := by unfold maskL; rw [List.foldl_append]; rfl
theorem foldBit : ∀ (l : List Nat) (s i : Nat), (l.foldl addS s).testBit i = (s.testBit i || decide (i ∈ l))
  | [], s, i => by simp
  | a :: l, s, i => by
    rw [List.foldl_cons, foldBit l, addSBit, Bool.or_assoc]
    congr 1
    rw [Bool.eq_iff_iff, Bool.or_eq_true, decide_eq_true_iff, decide_eq_true_iff, decide_eq_true_iff, List.mem_cons, eq_comm]
theorem maskBit {l : List Nat} {i : Nat} : (maskL l).testBit i = decide (i ∈ l) := by unfold maskL; rw [foldBit, Nat.zero_testBit, Bool.false_or]
theorem maskLt {l : List Nat} (h : ∀ x ∈ l, x < 64) : maskL l < B64 := by
  have : ∀ (l : List Nat) (s : Nat), s < B64 → (∀ x ∈ l, x < 64) → l.foldl addS s < B64 := by
    intro l
    induction l with
    | nil => intro s hs _; exact hs
    | cons a l ih => intro s hs h; exact ih _ (addLt hs (h a (by simp))) fun x hx => h x (by simp [hx])
  exact this l 0 (by decide) h
theorem bitsMask {l : List Nat} (h : ∀ x ∈ l, x < 64) (hs : l.Pairwise (· < ·)) : bitsOf (maskL l) = l :=
  sortedExt (bitsSorted _) hs fun x => by rw [bitsMem (maskLt h), maskBit, decide_eq_true_iff]
/-- The mask of the numbers that can follow s. -/
def nxtS (N : Nat) (f : Nat → Nat → Bool) (s : Nat) : Nat := maskL (nxtL N f s)
theorem nxtLt64 {N : Nat} (hN : N ≤ 64) {f : Nat → Nat → Bool} {s : Nat} : ∀ x ∈ nxtL N f s, x < 64 := fun x hx => by have := (nxtMem.1 hx).1; omega
theorem nxtSLt {N : Nat} (hN : N ≤ 64) (f : Nat → Nat → Bool) (s : Nat) : nxtS N f s < B64 := maskLt (nxtLt64 hN)
theorem nxtSBits {N : Nat} (hN : N ≤ 64) (f : Nat → Nat → Bool) (s : Nat) : bitsOf (nxtS N f s) = nxtL N f s := bitsMask (nxtLt64 hN) (nxtSorted N f s)
theorem nxtSBit {N : Nat} {f : Nat → Nat → Bool} {s a : Nat} : (nxtS N f s).testBit a = decide (a ∈ nxtL N f s) := maskBit
/-- The mask of the numbers that stand before b. -/
def prdS (N : Nat) (f : Nat → Nat → Bool) (b : Nat) : Nat := maskL ((List.range N).filter fun p => f p b)
theorem prdBit {N : Nat} {f : Nat → Nat → Bool} {b p : Nat} : (prdS N f b).testBit p = (decide (p < N) && f p b) := by
  unfold prdS
  rw [maskBit, Bool.eq_iff_iff, decide_eq_true_iff, List.mem_filter, List.mem_range, Bool.and_eq_true, decide_eq_true_iff]
theorem prdLt {N : Nat} (hN : N ≤ 64) (f : Nat → Nat → Bool) (b : Nat) : prdS N f b < B64 := maskLt fun x hx => by
  have := List.mem_range.1 (List.mem_filter.1 hx).1; omega
/-- Nothing that stands before a is missing in s. -/
theorem prdNone {N : Nat} (hN : N ≤ 64) {f : Nat → Nat → Bool} {s a : Nat} : subS (prdS N f a) s = 0 ↔ ∀ p, p < N → f p a = true → s.testBit p = true := by
  constructor
  · intro h p hp hf
    have h1 := subBit (b := s) (prdLt hN f a) p
    rw [h, Nat.zero_testBit, prdBit, decide_eq_true hp, hf] at h1
    cases e : s.testBit p
    · rw [e] at h1; cases h1
    · rfl
  · intro h
    refine Nat.eq_of_testBit_eq fun i => ?_
    rw [subBit (prdLt hN f a), prdBit, Nat.zero_testBit]
    by_cases hi : i < N
    · cases hf : f i a
      · simp
      · rw [h i hi hf]; simp
    · rw [decide_eq_false hi]; rfl
/-- What the loop of next goes over, and what it takes. -/
theorem nxtFilter {N : Nat} (hN : N ≤ 64) {f : Nat → Nat → Bool} {s : Nat} : (bitsOf (subS (fullS N) s)).filter (fun a => decide (subS (prdS N f a) s = 0)) = nxtL N f s := by
  refine sortedExt ((bitsSorted _).filter _) (nxtSorted N f s) fun x => ?_
  rw [List.mem_filter, bitsMem (subLt _ _), subBit (fullLt hN), fullBit, Bool.and_eq_true, decide_eq_true_iff, Bool.not_eq_true', decide_eq_true_iff, prdNone hN, nxtMem, canIff, and_assoc]
end Go.Proofs.YtjioiaeiggjneaaDoor
