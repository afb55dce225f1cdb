/-
  The contract of the specification's Parse: it returns the same value and error as the program's.
-/
import Derived.Test.YtnlhkeobfidjkaaDoorTexts
namespace Go.Proofs.YtnlhkeobfidjkaaDoor
open Go.RowKit

/-- What digits spell, behind acc. -/
def dv (acc : Nat) : List UInt8 → Nat
  | [] => acc
  | c :: r => dv (acc * 10 + (c.toNat - 48)) r
def svI (l : List UInt8) : Int := if Lib.hasPrefix l [45] then -(dv 0 (l.drop 1) : Int) else (dv 0 l : Int)

theorem dvMore : ∀ (l : List UInt8) (acc : Nat), acc ≤ dv acc l
  | [], acc => Nat.le_refl _
  | c :: r, acc => Nat.le_trans (by omega) (dvMore r (acc * 10 + (c.toNat - 48)))
theorem dvAppend : ∀ (l : List UInt8) (acc : Nat) (c : UInt8), dv acc (l ++ [c]) = dv acc l * 10 + (c.toNat - 48)
  | [], _, _ => rfl
  | _ :: r, _, c => dvAppend r _ c
theorem digOf {c : UInt8} (h : isDig c = true) : 48 ≤ c.toNat ∧ c.toNat ≤ 57 := by
  unfold isDig at h; rw [Bool.and_eq_true, decide_eq_true_eq, decide_eq_true_eq] at h; exact h
theorem dvBound : ∀ (l : List UInt8) (acc : Nat), l.all isDig = true → dv acc l < (acc + 1) * 10 ^ l.length
  | [], acc, _ => by show acc < (acc + 1) * 10 ^ 0; omega
  | c :: r, acc, h => by
    rw [List.all_cons, Bool.and_eq_true] at h
    have hc := digOf h.1
    have ih := dvBound r (acc * 10 + (c.toNat - 48)) h.2
    unfold dv
    refine Nat.lt_of_lt_of_le ih ?_
    rw [List.length_cons, Nat.pow_succ, Nat.mul_comm (10 ^ r.length) 10, ← Nat.mul_assoc]
    exact Nat.mul_le_mul_right _ (by omega)
theorem dvLow : ∀ (l : List UInt8) (acc : Nat), acc * 10 ^ l.length ≤ dv acc l
  | [], acc => by show acc * 10 ^ 0 ≤ acc; omega
  | c :: r, acc => by
    refine Nat.le_trans ?_ (dvLow r (acc * 10 + (c.toNat - 48)))
    rw [List.length_cons, Nat.pow_succ, Nat.mul_comm (10 ^ r.length) 10, ← Nat.mul_assoc]
    exact Nat.mul_le_mul_right _ (by omega)
theorem uintM_val (M : Nat) (hM : M < 1844674407370955162) : ∀ (l : List UInt8) (acc : Nat), acc ≤ M → l.all isDig = true →
    (dv acc l ≤ M → Lib.parseUintM M acc l = .ok (dv acc l)) ∧ (M < dv acc l → Lib.parseUintM M acc l = .range)
  | [], acc, ha, _ => ⟨fun _ => rfl, fun h => absurd h (by unfold dv; omega)⟩
  | c :: r, acc, ha, h => by
    rw [List.all_cons, Bool.and_eq_true] at h
    have hc := digOf h.1
    unfold Lib.parseUintM dv
    rw [if_pos hc, if_neg (by omega)]
    by_cases hg : M < acc * 10 + (c.toNat - 48)
    · rw [if_pos hg]
      exact ⟨fun hle => absurd (dvMore r (acc * 10 + (c.toNat - 48))) (by omega), fun _ => rfl⟩
    · rw [if_neg hg]
      exact uintM_val M hM r _ (by omega) h.2

theorem parSv (l : List UInt8) (h : notB l = true) :
    ((-2147483648 ≤ svI l ∧ svI l ≤ 2147483647) → parV l = svI l ∧ parE l = 0) ∧ (¬ (-2147483648 ≤ svI l ∧ svI l ≤ 2147483647) → parV l = 0 ∧ parE l = 2) := by
  have h' := h
  unfold notB ndB at h
  rw [Bool.and_eq_true, Bool.and_eq_true] at h
  obtain ⟨⟨hne, hall⟩, _⟩ := h
  cases l with
  | nil => simp [Lib.trimPrefix, Lib.hasPrefix] at hne
  | cons c r =>
    by_cases hc : c = 45
    · subst hc
      have hpx : Lib.hasPrefix ((45 : UInt8) :: r) [45] = true := by simp [Lib.hasPrefix]
      have e : Lib.trimPrefix ((45 : UInt8) :: r) [45] = r := by simp [Lib.trimPrefix, Lib.hasPrefix]
      rw [e] at hne hall
      have hr : r ≠ [] := by intro hh; rw [hh] at hne; simp at hne
      have hv := uintM_val (2 ^ 32 - 1) (by decide) r 0 (by omega) hall
      have es : svI ((45 : UInt8) :: r) = -(dv 0 r : Int) := by unfold svI; rw [hpx]; rfl
      rw [es]
      by_cases hb : dv 0 r ≤ 2147483648
      · refine ⟨fun _ => parOk _ _ h' ?_, fun hh => absurd hh (by omega)⟩
        unfold Lib.parseIntB Lib.parseUintB
        simp only [show (45 : UInt8).toNat = 45 from rfl, or_true, if_true, if_neg hr, hv.1 (by omega)]
        rw [if_neg (by simp), if_neg (by simp; omega)]
      · refine ⟨fun hh => absurd hh (by omega), fun _ => parRange _ h' ?_⟩
        unfold Lib.parseIntB Lib.parseUintB
        simp only [show (45 : UInt8).toNat = 45 from rfl, or_true, if_true, if_neg hr]
        by_cases hg : dv 0 r ≤ 2 ^ 32 - 1
        · simp only [hv.1 hg]
          rw [if_neg (by simp), if_pos (by simp; omega)]
        · simp only [hv.2 (by omega)]
    · have hpx : Lib.hasPrefix (c :: r) [45] = false := by simp [Lib.hasPrefix, List.isPrefixOf, Ne.symm hc]
      have e : Lib.trimPrefix (c :: r) [45] = c :: r := by unfold Lib.trimPrefix; rw [hpx]; rfl
      rw [e] at hne hall
      have hd := hall
      rw [List.all_cons, Bool.and_eq_true] at hd
      have hcd := digOf hd.1
      have hn : ¬ (c.toNat = 43 ∨ c.toNat = 45) := by omega
      have hcons : ¬ (c :: r = []) := by simp
      have hm : ¬ c.toNat = 45 := by omega
      have hv := uintM_val (2 ^ 32 - 1) (by decide) (c :: r) 0 (by omega) hall
      have es : svI (c :: r) = (dv 0 (c :: r) : Int) := by unfold svI; rw [hpx]; rfl
      rw [es]
      by_cases hb : dv 0 (c :: r) ≤ 2147483647
      · refine ⟨fun _ => parOk _ _ h' ?_, fun hh => absurd hh (by omega)⟩
        unfold Lib.parseIntB Lib.parseUintB
        simp only [if_neg hn, if_neg hcons, hv.1 (by omega)]
        rw [if_neg (by simp; omega), if_neg (by simp [hm]), if_neg hm]
      · refine ⟨fun hh => absurd hh (by omega), fun _ => parRange _ h' ?_⟩
        unfold Lib.parseIntB Lib.parseUintB
        simp only [if_neg hn, if_neg hcons]
        by_cases hg : dv 0 (c :: r) ≤ 2 ^ 32 - 1
        · simp only [hv.1 hg]
          rw [if_pos (by simp; omega)]
        · simp only [hv.2 (by omega)]

/-- What the loop has read behind k bytes; the sign counts for nothing. -/
def rd (l : List UInt8) (k : Nat) : Nat := if Lib.hasPrefix l [45] then dv 0 ((l.take k).drop 1) else dv 0 (l.take k)

theorem take1 (s : ByteArray) (k : Nat) (h : k < s.size) : s.data.toList.take (k + 1) = s.data.toList.take k ++ [s[k]] := by
  rw [List.take_add_one, getD' s k h]; rfl
theorem rdSucc (s : ByteArray) (k : Nat) (h : k < s.size) (h1 : 0 < k ∨ Lib.hasPrefix s.data.toList [45] = false) : rd s.data.toList (k + 1) = rd s.data.toList k * 10 + (s[k].toNat - 48) := by
  unfold rd
  rw [take1 s k h]
  split
  · rename_i hp
    rcases h1 with h1 | h1
    · rw [List.drop_append_of_le_length (by rw [List.length_take, sizeD]; omega), dvAppend]
    · rw [hp] at h1; cases h1
  · exact dvAppend _ _ _
theorem rdFirst (s : ByteArray) (hp : Lib.hasPrefix s.data.toList [45] = true) : rd s.data.toList 0 = 0 ∧ rd s.data.toList 1 = 0 := by
  unfold rd
  rw [if_pos hp, if_pos hp]
  refine ⟨rfl, ?_⟩
  cases s.data.toList <;> rfl
theorem rdAll (s : ByteArray) : svI s.data.toList = if Lib.hasPrefix s.data.toList [45] then -(rd s.data.toList s.size : Int) else (rd s.data.toList s.size : Int) := by
  unfold svI rd
  rw [List.take_of_length_le (by rw [sizeD]; exact Nat.le_refl _)]
  split <;> rfl

/-- Behind the sign there are digits alone. -/
theorem tailDig (s : ByteArray) (h : notB s.data.toList = true) (k : Nat) (hk : k < s.size) (h1 : 0 < k ∨ Lib.hasPrefix s.data.toList [45] = false) : 48 ≤ s[k].toNat ∧ s[k].toNat ≤ 57 := by
  unfold notB ndB at h
  rw [Bool.and_eq_true, Bool.and_eq_true] at h
  obtain ⟨⟨_, hall⟩, _⟩ := h
  refine digOf (List.all_eq_true.1 hall _ ?_)
  unfold Lib.trimPrefix
  split
  · rename_i hp
    rcases h1 with h1 | h1
    · refine List.mem_of_getElem? (i := k - 1) ?_
      rw [List.getElem?_drop]
      rw [show [(45 : UInt8)].length + (k - 1) = k from by simp; omega]
      exact getD' s k hk
    · rw [hp] at h1; cases h1
  · exact List.mem_of_getElem? (getD' s k hk)
theorem headMinus (s : ByteArray) (h0 : 0 < s.size) : Lib.hasPrefix s.data.toList [45] = ((s[0].toNat : Int) == 45) := by
  have hc := consOf s h0
  generalize s.data.toList.drop 1 = r at hc
  rw [hc]
  generalize s[0] = c
  by_cases e : c = 45
  · subst e; simp [Lib.hasPrefix]
  · have h1 : Lib.hasPrefix (c :: r) [45] = false := by simp [Lib.hasPrefix, List.isPrefixOf, Ne.symm e]
    rw [h1]
    symm
    rw [beq_eq_false_iff_ne]
    intro h
    exact e (UInt8.toNat_inj.mp (by rw [show (45 : UInt8).toNat = 45 from rfl]; omega))
theorem rdBound (s : ByteArray) (h : notB s.data.toList = true) (k : Nat) (hk : k ≤ 11) (hs : k ≤ s.size) : rd s.data.toList k < 100000000000 := by
  have hpow : ∀ l : List UInt8, l.all isDig = true → l.length ≤ 11 → dv 0 l < 100000000000 := fun l hl hn =>
    Nat.lt_of_lt_of_le (dvBound l 0 hl) (by rw [Nat.zero_add, Nat.one_mul]; exact Nat.pow_le_pow_right (n := 10) (by omega) hn)
  have hall : ∀ (x : UInt8) (j : Nat), j < k → s.data.toList[j]? = some x → (0 < j ∨ Lib.hasPrefix s.data.toList [45] = false) → isDig x = true := fun x j hj hx h1 => by
    have := tailDig s h j (by omega) h1
    rw [getD' s j (by omega), Option.some.injEq] at hx
    subst hx
    simp [isDig, this.1, this.2]
  unfold rd
  split
  · refine hpow _ (List.all_eq_true.2 fun x hx => ?_) (by rw [List.length_drop, List.length_take]; omega)
    obtain ⟨j, hj⟩ := List.mem_iff_getElem?.1 hx
    rw [List.getElem?_drop, List.getElem?_take] at hj
    split at hj
    · exact hall x _ (by assumption) hj (Or.inl (by omega))
    · cases hj
  · rename_i hp
    refine hpow _ (List.all_eq_true.2 fun x hx => ?_) (by rw [List.length_take]; omega)
    obtain ⟨j, hj⟩ := List.mem_iff_getElem?.1 hx
    rw [List.getElem?_take] at hj
    split at hj
    · exact hall x _ (by assumption) hj (Or.inr (by simpa using hp))
    · cases hj

/-- A notation of more than 11 bytes is no value. -/
theorem longOut (s : ByteArray) (h : notB s.data.toList = true) (hl : 11 < s.size) : ¬ (-2147483648 ≤ svI s.data.toList ∧ svI s.data.toList ≤ 2147483647) := by
  have h' := h
  unfold notB ndB at h
  rw [Bool.and_eq_true, Bool.and_eq_true] at h
  obtain ⟨⟨hne, hall⟩, hz⟩ := h
  have big : ∀ d : List UInt8, d.all isDig = true → 11 ≤ d.length → (d.head? != some 48) = true → 10000000000 ≤ dv 0 d := by
    intro d hd hn hh
    cases d with
    | nil => simp at hn
    | cons c r =>
      rw [List.all_cons, Bool.and_eq_true] at hd
      have hc := digOf hd.1
      have hc2 : c.toNat ≠ 48 := by
        intro e
        have : c = 48 := UInt8.toNat_inj.mp e
        subst this
        simp at hh
      have hlow := dvLow r (0 * 10 + (c.toNat - 48))
      have hp : 10 ^ 10 ≤ 10 ^ r.length := Nat.pow_le_pow_right (n := 10) (by omega) (by rw [List.length_cons] at hn; omega)
      have h1 : 1 * 10 ^ r.length ≤ (0 * 10 + (c.toNat - 48)) * 10 ^ r.length := Nat.mul_le_mul_right _ (by omega)
      show 10000000000 ≤ dv (0 * 10 + (c.toNat - 48)) r
      omega
  unfold svI
  cases hp : Lib.hasPrefix s.data.toList [45] with
  | true =>
    have e : Lib.trimPrefix s.data.toList [45] = s.data.toList.drop 1 := by unfold Lib.trimPrefix; rw [hp]; rfl
    rw [e] at hall hz
    have hlen : (s.data.toList.drop 1).length = s.size - 1 := by rw [List.length_drop, sizeD]
    have hz' : ((s.data.toList.drop 1).head? != some 48) = true := by
      rw [Bool.or_eq_true] at hz
      rcases hz with hz | hz
      · exact hz
      · rw [Bool.and_eq_true, beq_iff_eq, hlen] at hz; omega
    have := big _ hall (by omega) hz'
    rw [if_pos rfl]
    omega
  | false =>
    have e : Lib.trimPrefix s.data.toList [45] = s.data.toList := by unfold Lib.trimPrefix; rw [hp]; rfl
    rw [e] at hall hz
    have hz' : (s.data.toList.head? != some 48) = true := by
      rw [Bool.or_eq_true] at hz
      rcases hz with hz | hz
      · exact hz
      · rw [Bool.and_eq_true, beq_iff_eq, sizeD] at hz; omega
    have := big _ hall (by rw [sizeD]; omega) hz'
    rw [if_neg (by simp)]
    omega
end Go.Proofs.YtnlhkeobfidjkaaDoor
