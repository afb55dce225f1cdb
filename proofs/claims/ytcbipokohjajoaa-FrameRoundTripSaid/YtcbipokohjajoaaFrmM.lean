/-
  The encoding of integers as bytes and its inverse, without any program.
-/
namespace Go.Proofs.Ytcbipokohjajoaa

/-- The groups of seven bits of a number, the least significant one first. -/
def encL (n : Nat) : List UInt8 := if n < 128 then [UInt8.ofNat n] else UInt8.ofNat (n % 128 + 128) :: encL (n / 128)
termination_by n
theorem encLt {n : Nat} (h : n < 128) : encL n = [UInt8.ofNat n] := by rw [encL, if_pos h]
theorem encGe {n : Nat} (h : ¬ n < 128) : encL n = UInt8.ofNat (n % 128 + 128) :: encL (n / 128) := by rw [encL, if_neg h]
/-- The encoding of an integer; of one out of range: nothing. -/
def encU (n : Int) : List UInt8 := if 0 ≤ n ∧ n ≤ 4611686018427387904 then encL n.toNat else []
/-- The integer whose encoding a signed integer has. -/
def zig (n : Int) : Int := if n < 0 then -2 * n - 1 else 2 * n
/-- A signed integer is in range. -/
def fitS (n : Int) : Bool := decide (-2305843009213693952 ≤ n ∧ n ≤ 2305843009213693952)
/-- The encoding of a signed integer. -/
def encS (n : Int) : List UInt8 := if fitS n then encL (zig n).toNat else []
/-- The signed integer with the encoding of n. -/
def sgn (n : Nat) : Int := if n % 2 = 1 then -((n / 2 : Nat) : Int) - 1 else ((n / 2 : Nat) : Int)
/-- How many bytes of at least 128 stand at the beginning. -/
def dn : List UInt8 → Nat
  | [] => 0
  | c :: t => if 128 ≤ c.toNat then dn t + 1 else 0
def valL : List UInt8 → Nat
  | [] => 0
  | c :: t => c.toNat % 128 + 128 * valL t
/-- The error of decoding an integer. -/
def errU (l : List UInt8) : Nat :=
  if 9 ≤ dn l then 2 else if dn l = l.length then 22 else if 0 < dn l ∧ l.getD (dn l) 1 = 0 then 3 else if 4611686018427387904 < valL (l.take (dn l + 1)) then 2 else 0
def valU (l : List UInt8) : Nat := if errU l = 0 then valL (l.take (dn l + 1)) else 0
def resU (l : List UInt8) : List UInt8 := if errU l = 0 then l.drop (dn l + 1) else []

theorem dnLe : ∀ l : List UInt8, dn l ≤ l.length
  | [] => Nat.le_refl _
  | c :: t => by unfold dn; have := dnLe t; split <;> simp <;> omega
theorem dnGe : ∀ (l : List UInt8) (i : Nat), i < dn l → ∃ c, l[i]? = some c ∧ 128 ≤ c.toNat
  | [], i, h => by simp [dn] at h
  | c :: t, i, h => by
    unfold dn at h
    split at h
    · rename_i hc
      rcases i with _ | i
      · exact ⟨c, rfl, hc⟩
      · exact dnGe t i (by omega)
    · omega
theorem dnAt : ∀ (l : List UInt8), dn l < l.length → ∃ c, l[dn l]? = some c ∧ c.toNat < 128
  | [], h => by simp [dn] at h
  | c :: t, h => by
    unfold dn at h ⊢
    split at h
    · rename_i hc
      rw [if_pos hc]
      exact dnAt t (by simpa using h)
    · rename_i hc
      rw [if_neg hc]
      exact ⟨c, rfl, by omega⟩
theorem dnUniq : ∀ (l : List UInt8) (i : Nat) (c : UInt8), (∀ j, j < i → ∃ d, l[j]? = some d ∧ 128 ≤ d.toNat) → l[i]? = some c → c.toNat < 128 → dn l = i := by
  intro l i c h hc hlt
  rcases Nat.lt_trichotomy (dn l) i with h1 | h1 | h1
  · obtain ⟨d, hd, hge⟩ := h _ h1
    have hl : dn l < l.length := (List.getElem?_eq_some_iff.1 hd).1
    obtain ⟨e, he, hlt'⟩ := dnAt l hl
    rw [hd] at he; injection he with he; subst he; omega
  · exact h1
  · obtain ⟨d, hd, hge⟩ := dnGe l i h1
    rw [hc] at hd; injection hd with hd; subst hd; omega
theorem dnMono (l : List UInt8) (i : Nat) (h : ∀ j, j < i → ∃ d, l[j]? = some d ∧ 128 ≤ d.toNat) : i ≤ dn l := by
  rcases Nat.lt_or_ge (dn l) i with h1 | h1
  · obtain ⟨d, hd, hge⟩ := h _ h1
    have hl : dn l < l.length := (List.getElem?_eq_some_iff.1 hd).1
    obtain ⟨e, he, hlt'⟩ := dnAt l hl
    rw [hd] at he; injection he with he; subst he; omega
  · exact h1
theorem valAppend : ∀ (l m : List UInt8), valL (l ++ m) = valL l + 128 ^ l.length * valL m
  | [], m => by simp [valL]
  | c :: t, m => by
    simp only [List.cons_append, valL, List.length_cons, Nat.pow_succ]
    rw [valAppend t m, Nat.mul_add, ← Nat.mul_assoc, Nat.mul_comm 128 (128 ^ t.length)]
    omega
theorem valLt : ∀ (l : List UInt8), valL l < 128 ^ l.length
  | [] => by simp [valL]
  | c :: t => by
    simp only [valL, List.length_cons, Nat.pow_succ]
    have := valLt t
    have h2 : c.toNat % 128 < 128 := Nat.mod_lt _ (by omega)
    omega
theorem valSnoc (l : List UInt8) (c : UInt8) : valL (l ++ [c]) = valL l + 128 ^ l.length * (c.toNat % 128) := by
  rw [valAppend]; simp [valL]

/-! Decoding of what was encoded. -/
theorem encPos (n : Nat) : 0 < (encL n).length := by rw [encL]; split <;> simp
theorem encLast : ∀ n : Nat, ∀ r : List UInt8, dn (encL n ++ r) + 1 = (encL n).length ∧ valL (encL n) = n ∧ (1 < (encL n).length → 128 ≤ n)
  | n, r => by
    by_cases h : n < 128
    · rw [encLt h]
      have e : (UInt8.ofNat n).toNat = n := by simp; omega
      refine ⟨by simp [dn]; omega, by simp [valL]; omega, by simp⟩
    · rw [encGe h]
      have e : (UInt8.ofNat (n % 128 + 128)).toNat = n % 128 + 128 := by simp; omega
      obtain ⟨h1, h2, _⟩ := encLast (n / 128) r
      refine ⟨?_, ?_, fun _ => by omega⟩
      · simp only [List.cons_append, dn, e, List.length_cons]
        rw [if_pos (by omega)]; omega
      · simp only [valL, e, h2]; omega
termination_by n => n
theorem encLen : ∀ (n k : Nat), n < 128 ^ k → 0 < k → (encL n).length ≤ k
  | n, k, h, hk => by
    by_cases hn : n < 128
    · rw [encLt hn]; simp; omega
    · rw [encGe hn]
      have hk2 : 2 ≤ k := by
        rcases Nat.lt_or_ge k 2 with h2 | h2
        · obtain rfl : k = 1 := by omega
          simp at h; omega
        · exact h2
      have h3 : n / 128 < 128 ^ (k - 1) := by
        apply Nat.div_lt_of_lt_mul
        have : 128 * 128 ^ (k - 1) = 128 ^ k := by rw [Nat.mul_comm, ← Nat.pow_succ]; congr 1; omega
        omega
      have := encLen (n / 128) (k - 1) h3 (by omega)
      simp; omega
termination_by n => n
theorem encZero : ∀ (n : Nat), 1 < (encL n).length → ∀ c, (encL n).getLast? = some c → c ≠ 0
  | n, h, c, hc => by
    by_cases hn : n < 128
    · rw [encLt hn] at h; simp at h
    · rw [encGe hn] at hc
      have hp := encPos (n / 128)
      have hc' : (encL (n / 128)).getLast? = some c := by
        rw [List.getLast?_cons] at hc
        cases e : (encL (n / 128)).getLast? with
        | none => rw [List.getLast?_eq_none_iff] at e; rw [e] at hp; simp at hp
        | some d => rw [e] at hc; simpa using hc
      by_cases h2 : 1 < (encL (n / 128)).length
      · exact encZero (n / 128) h2 c hc'
      · by_cases h3 : n / 128 < 128
        · rw [encLt h3] at hc'
          simp at hc'
          subst hc'
          intro e
          have : (UInt8.ofNat (n / 128)).toNat = 0 := by rw [e]; rfl
          simp at this
          omega
        · have := encPos (n / 128 / 128)
          have e : (encL (n / 128)).length = (encL (n / 128 / 128)).length + 1 := by rw [encGe h3]; simp
          omega
termination_by n => n
theorem errEnc {n : Nat} (hn : n ≤ 4611686018427387904) (r : List UInt8) : errU (encL n ++ r) = 0 ∧ valU (encL n ++ r) = n ∧ resU (encL n ++ r) = r := by
  obtain ⟨h1, h2, h3⟩ := encLast n r
  have hl := encLen n 9 (by omega) (by omega)
  have hp := encPos n
  have ht : (encL n ++ r).take (dn (encL n ++ r) + 1) = encL n := by rw [h1]; simp
  have he : errU (encL n ++ r) = 0 := by
    unfold errU
    rw [if_neg (by omega), if_neg (by rw [List.length_append]; omega), ht, h2, if_neg, if_neg (by omega)]
    rintro ⟨h4, h5⟩
    have hlen : 1 < (encL n).length := by omega
    have hg : (encL n).getLast? = some ((encL n ++ r).getD (dn (encL n ++ r)) 1) := by
      rw [List.getLast?_eq_getElem?]
      rw [List.getD, List.getElem?_append_left (by omega), show (encL n).length - 1 = dn (encL n ++ r) by omega]
      rw [List.getElem?_eq_getElem (by omega)]; rfl
    exact encZero n hlen _ hg h5
  refine ⟨he, ?_, ?_⟩
  · unfold valU; rw [if_pos he, ht, h2]
  · unfold resU; rw [if_pos he, h1]; simp
/-- What decodes is the encoding of its value. -/
theorem encVal : ∀ (l : List UInt8) (c : UInt8), (∀ j, j < l.length → ∃ d, l[j]? = some d ∧ 128 ≤ d.toNat) → c.toNat < 128 → (l ≠ [] → c ≠ 0) → encL (valL (l ++ [c])) = l ++ [c]
  | [], c, _, hc, _ => by
    simp only [List.nil_append, valL]
    rw [show c.toNat % 128 + 128 * 0 = c.toNat by omega, encLt hc]
    simp
  | d :: t, c, h, hc, h0 => by
    have hd : 128 ≤ d.toNat := by obtain ⟨e, he, hge⟩ := h 0 (by simp); simp at he; subst he; exact hge
    have hc0 := h0 (by simp)
    have ih := encVal t c (fun j hj => by have := h (j + 1) (by simp; omega); simpa using this) hc (fun _ => hc0)
    have hpos : 0 < valL (t ++ [c]) := by
      rcases Nat.eq_zero_or_pos (valL (t ++ [c])) with hz | hz
      · exfalso
        rw [valSnoc] at hz
        have hp : 0 < 128 ^ t.length := Nat.pow_pos (by omega)
        have : c.toNat % 128 = 0 := by
          rcases Nat.eq_zero_or_pos (c.toNat % 128) with h1 | h1
          · exact h1
          · have := Nat.mul_pos hp h1; omega
        apply hc0
        apply UInt8.toNat_inj.1
        simp; omega
      · exact hz
    have hlt : d.toNat < 256 := UInt8.toNat_lt d
    simp only [List.cons_append, valL]
    rw [encGe (by omega), show (d.toNat % 128 + 128 * valL (t ++ [c])) / 128 = valL (t ++ [c]) by omega, ih]
    congr 1
    apply UInt8.toNat_inj.1
    simp; omega
theorem getD_one (l : List UInt8) (i : Nat) (c : UInt8) (h : l[i]? = some c) : l.getD i 1 = c := by rw [List.getD, h]; rfl
theorem decEnc {l : List UInt8} (h : errU l = 0) : encL (valU l) ++ resU l = l ∧ valU l ≤ 4611686018427387904 ∧ dn l < l.length ∧ dn l < 9 := by
  have h' := h
  unfold errU at h'
  split at h'
  · omega
  split at h'
  · omega
  split at h'
  · omega
  split at h'
  · omega
  rename_i h1 h2 h3 h4
  have hlt : dn l < l.length := by have := dnLe l; omega
  obtain ⟨c, hc, hc1⟩ := dnAt l hlt
  have ht : l.take (dn l + 1) = l.take (dn l) ++ [c] := by
    rw [List.take_add_one, hc]; rfl
  refine ⟨?_, by unfold valU; rw [if_pos h]; omega, hlt, by omega⟩
  unfold valU resU
  rw [if_pos h, if_pos h, ht, encVal, ← ht, List.take_append_drop]
  · intro j hj
    rw [List.length_take] at hj
    obtain ⟨d, hd, hge⟩ := dnGe l j (by omega)
    exact ⟨d, by rw [List.getElem?_take_of_lt (by omega), hd], hge⟩
  · exact hc1
  · intro hne h0
    apply h3
    refine ⟨?_, by rw [getD_one _ _ _ hc, h0]⟩
    rcases Nat.eq_zero_or_pos (dn l) with hz | hz
    · rw [hz] at hne; simp at hne
    · exact hz
theorem resLen {l : List UInt8} (h : errU l = 0) : (resU l).length + 1 ≤ l.length := by
  have := (decEnc h).2.2.1
  unfold resU; rw [if_pos h, List.length_drop]; omega
theorem resLenLe (l : List UInt8) : (resU l).length ≤ l.length := by
  unfold resU; split
  · rw [List.length_drop]; omega
  · simp
theorem valLeU (l : List UInt8) : valU l ≤ 4611686018427387904 := by
  by_cases h : errU l = 0
  · exact (decEnc h).2.1
  · unfold valU; rw [if_neg h]; omega
/-- A part of an encoding that ends early. -/
theorem errCut {n i : Nat} (hn : n ≤ 4611686018427387904) (hi : i < (encL n).length) : errU ((encL n).take i) = 22 := by
  obtain ⟨h1, h2, h3⟩ := encLast n []
  rw [List.append_nil] at h1
  have hl := encLen n 9 (by omega) (by omega)
  have hd : dn ((encL n).take i) = i := by
    have h4 : i ≤ dn ((encL n).take i) := dnMono _ _ fun j hj => by
      obtain ⟨d, hd, hge⟩ := dnGe (encL n) j (by omega)
      exact ⟨d, by rw [List.getElem?_take_of_lt (by omega), hd], hge⟩
    have := dnLe ((encL n).take i)
    rw [List.length_take] at this
    omega
  unfold errU
  rw [hd, if_neg (by omega), if_pos (by rw [List.length_take]; omega)]
theorem sgnZig {n : Int} : sgn (zig n).toNat = n := by
  unfold sgn zig
  split <;> split <;> omega
theorem zigSgn (n : Nat) : (zig (sgn n)).toNat = n ∧ 0 ≤ zig (sgn n) := by
  unfold sgn zig
  split <;> split <;> omega
theorem zigFit {n : Int} (h : fitS n = true) : 0 ≤ zig n ∧ zig n ≤ 4611686018427387904 := by
  unfold fitS at h
  simp at h
  unfold zig
  split <;> omega
theorem sgnFit {n : Nat} (h : n ≤ 4611686018427387904) : fitS (sgn n) = true := by
  unfold fitS sgn
  simp only [decide_eq_true_iff]
  split <;> omega
theorem encSgn {n : Nat} (h : n ≤ 4611686018427387904) : encS (sgn n) = encL n := by
  unfold encS; rw [if_pos (sgnFit h), (zigSgn n).1]
theorem encUNat {n : Nat} (h : n ≤ 4611686018427387904) : encU (n : Int) = encL n := by
  unfold encU; rw [if_pos (by omega)]; rfl
end Go.Proofs.Ytcbipokohjajoaa
