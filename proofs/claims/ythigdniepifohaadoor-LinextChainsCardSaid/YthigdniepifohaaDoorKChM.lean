/-
  Two chains: their downward closed sets and linear extensions. Without any program.
-/
import Derived.Test.YthigdniepifohaaDoorKLFw
import Derived.Test.YthigdniepifohaaDoorKLinY
namespace Go.Proofs.YthigdniepifohaaDoor
open Go

/-! ### Binomial coefficients -/
def bin : Nat → Nat → Nat
  | _, 0 => 1
  | 0, _ + 1 => 0
  | n + 1, k + 1 => bin n k + bin n (k + 1)
theorem binZ (n : Nat) : bin n 0 = 1 := by cases n <;> rfl
theorem binOver : ∀ {n k : Nat}, n < k → bin n k = 0
  | 0, _ + 1, _ => rfl
  | n + 1, k + 1, h => by rw [bin, binOver (show n < k by omega), binOver (show n < k + 1 by omega)]
theorem binSelf : ∀ n : Nat, bin n n = 1
  | 0 => rfl
  | n + 1 => by rw [bin, binSelf n, binOver (Nat.lt_succ_self n)]
/-- The next row, computed. -/
def nxtRow (l : List Nat) : List Nat := (l.zip (0 :: l)).map (fun p => p.1 + p.2) ++ [1]
def rowC : Nat → List Nat
  | 0 => [1]
  | n + 1 => nxtRow (rowC n)
theorem rowIs : ∀ n : Nat, rowC n = (List.range (n + 1)).map (bin n)
  | 0 => rfl
  | n + 1 => by
    rw [rowC, rowIs n]
    unfold nxtRow
    apply List.ext_getElem
    · simp
    · intro i h1 h2
      have hi : i < n + 2 := by simpa using h2
      rw [List.getElem_map, List.getElem_range]
      rcases Nat.lt_or_ge i (n + 1) with h | h
      · rw [List.getElem_append_left (by simpa using h), List.getElem_map, List.getElem_zip]
        rcases i with _ | i
        · simp [binZ]
        · simp [bin, Nat.add_comm]
      · have : i = n + 1 := by omega
        subst this
        rw [List.getElem_append_right (by simp)]
        simp [binSelf]
theorem rowSmall : ((List.range 65).all fun n => (rowC n).all fun x => decide (x ≤ 4611686018427387904)) = true := by decide +kernel
theorem binLe {n k : Nat} (hn : n ≤ 64) : bin n k ≤ 4611686018427387904 := by
  rcases Nat.lt_or_ge n k with h | h
  · rw [binOver h]; omega
  · have h1 := List.all_eq_true.1 rowSmall n (List.mem_range.2 (by omega))
    have h2 := List.all_eq_true.1 h1 (bin n k) (by rw [rowIs]; exact List.mem_map.2 ⟨k, List.mem_range.2 (by omega), rfl⟩)
    exact of_decide_eq_true h2
/-! ### The relation -/
def chP (m i : Nat) : Prs := ((List.range i).filter fun j => decide (1 ≤ j) && decide (j ≠ m)).map fun j : Nat => ((j : Int) - 1, (j : Int))
theorem chS {m i : Nat} : chP m (i + 1) = chP m i ++ (if decide (1 ≤ i) && decide (i ≠ m) then [((i : Int) - 1, (i : Int))] else []) := by
  unfold chP
  rw [List.range_succ, List.filter_append, List.map_append]
  congr 1
  rw [List.filter_cons, List.filter_nil]
  cases (decide (1 ≤ i) && decide (i ≠ m)) <;> rfl
theorem chLen {m i : Nat} : (chP m i).length ≤ i := by
  unfold chP
  rw [List.length_map]
  exact Nat.le_trans (List.length_filter_le _ _) (by simp)
theorem chHas {m i a b : Nat} : hasP (chP m i) a b = true ↔ a + 1 = b ∧ b < i ∧ b ≠ m := by
  rw [show hasP (chP m i) a b = true ↔ ((a : Int), (b : Int)) ∈ chP m i from by unfold hasP; rw [decide_eq_true_iff]]
  unfold chP
  rw [List.mem_map]
  constructor
  · rintro ⟨j, hj, e⟩
    have h1 := List.mem_filter.1 hj
    have h2 := List.mem_range.1 h1.1
    have h3 := h1.2
    simp only [Bool.and_eq_true, decide_eq_true_eq] at h3
    injection e with e1 e2
    omega
  · rintro ⟨h1, h2, h3⟩
    refine ⟨b, List.mem_filter.2 ⟨List.mem_range.2 h2, by simp only [Bool.and_eq_true, decide_eq_true_eq]; omega⟩, ?_⟩
    rw [Prod.mk.injEq]
    omega
theorem chOk {m i : Nat} (hi : i ≤ 64) : okR (i : Int) (chP m i) = true := by
  unfold okR
  refine decide_eq_true ⟨by omega, by omega, fun p hp => ?_⟩
  unfold chP at hp
  obtain ⟨j, hj, rfl⟩ := List.mem_map.1 hp
  have h1 := List.mem_filter.1 hj
  have h2 := List.mem_range.1 h1.1
  have h3 := h1.2
  simp only [Bool.and_eq_true, decide_eq_true_eq] at h3
  simp only
  omega
theorem pthLt {f : Nat → Nat → Bool} (hf : ∀ a b, f a b = true → a < b) : ∀ (L : List Nat) (a b : Nat), pth f a L b → a < b
  | [], a, b, h => hf a b h
  | x :: L, a, b, h => Nat.lt_trans (hf a x h.1) (pthLt hf L x b h.2)
theorem chAcy {m i : Nat} (hi : i ≤ 64) : acyR (i : Int) (chP m i) = true := by
  unfold acyR
  rw [chOk hi, Bool.true_and]
  refine acyIff.2 fun a ha => ?_
  cases e : tcT i (hasP (chP m i)) a a
  · exact e
  · obtain ⟨L, _, hL⟩ := tcIff.1 e
    exact absurd (pthLt (fun a b h => by have := chHas.1 h; omega) L a a hL) (Nat.lt_irrefl a)
/-! ### The sets -/
structure Sg (m n i j s : Nat) : Prop where
  hi : i ≤ m
  hj : j ≤ n
  bit : ∀ x, s.testBit x = decide (x < i ∨ (m ≤ x ∧ x < m + j))
theorem Sg.zero (m n : Nat) : Sg m n 0 0 0 := ⟨Nat.zero_le _, Nat.zero_le _, fun x => by rw [Nat.zero_testBit]; exact (decide_eq_false (by omega)).symm⟩
theorem Sg.nxt {m n i j s : Nat} (h : Sg m n i j s) : nxtL (m + n) (hasP (chP m (m + n))) s = (if i < m then [i] else []) ++ (if j < n then [m + j] else []) := by
  refine sortedExt (nxtSorted _ _ _) ?_ fun a => ?_
  · have := h.hi
    split <;> split <;> simp <;> omega
  · rw [nxtMem, canIff, h.bit, decide_eq_false_iff_not, List.mem_append]
    have hp : (∀ p, p < m + n → hasP (chP m (m + n)) p a = true → s.testBit p = true) ↔ (a < m + n → a ≠ m → 1 ≤ a → (a - 1 < i ∨ (m ≤ a - 1 ∧ a - 1 < m + j))) := by
      constructor
      · intro h1 h2 h3 h4
        have := h1 (a - 1) (by omega) (chHas.2 ⟨by omega, h2, h3⟩)
        rw [h.bit] at this
        exact of_decide_eq_true this
      · intro h1 p hp hf
        have h2 := chHas.1 hf
        rw [h.bit]
        have := h1 h2.2.1 h2.2.2 (by omega)
        refine decide_eq_true ?_
        have e : p = a - 1 := by omega
        subst e
        exact this
    rw [hp]
    have h1 := h.hi
    have h2 := h.hj
    have m1 : (a ∈ if i < m then [i] else []) ↔ i < m ∧ a = i := by
      by_cases q : i < m
      · rw [if_pos q, List.mem_singleton]; exact ⟨fun e => ⟨q, e⟩, fun e => e.2⟩
      · rw [if_neg q]; exact ⟨fun e => absurd e (by simp), fun e => absurd e.1 q⟩
    have m2 : (a ∈ if j < n then [m + j] else []) ↔ j < n ∧ a = m + j := by
      by_cases q : j < n
      · rw [if_pos q, List.mem_singleton]; exact ⟨fun e => ⟨q, e⟩, fun e => e.2⟩
      · rw [if_neg q]; exact ⟨fun e => absurd e (by simp), fun e => absurd e.1 q⟩
    rw [m1, m2]
    constructor
    · rintro ⟨q1, q2, q3⟩
      have q3' := q3 q1
      by_cases hm : a < m
      · left
        rcases Nat.eq_zero_or_pos a with h0 | h0
        · omega
        · have := q3' (by omega) h0; omega
      · right
        by_cases he : a = m
        · omega
        · have := q3' he (by omega); omega
    · rintro (⟨q1, rfl⟩ | ⟨q1, rfl⟩)
      · refine ⟨by omega, by omega, fun _ _ _ => by omega⟩
      · refine ⟨by omega, by omega, fun _ _ _ => by omega⟩
theorem Sg.left {m n i j s : Nat} (h : Sg m n i j s) (hi : i < m) : Sg m n (i + 1) j (addS s i) := ⟨hi, h.hj, fun x => by
  rw [addSBit, h.bit, ← Bool.decide_or]
  exact decide_eq_decide.2 (by omega)⟩
theorem Sg.right {m n i j s : Nat} (h : Sg m n i j s) (hj : j < n) : Sg m n i (j + 1) (addS s (m + j)) := ⟨h.hi, hj, fun x => by
  rw [addSBit, h.bit, ← Bool.decide_or]
  exact decide_eq_decide.2 (by omega)⟩
theorem Sg.ways {m n : Nat} : ∀ {k i j s : Nat}, Sg m n i j s → k = (m - i) + (n - j) → ways (m + n) (hasP (chP m (m + n))) k s = bin k (m - i)
  | 0, i, j, s, h, hk => by
    have h1 := h.hi
    rw [waysZero, show m - i = 0 by omega]
    rfl
  | k + 1, i, j, s, h, hk => by
    rw [waysSucc, h.nxt]
    have h1 := h.hi
    have h2 := h.hj
    by_cases hi : i < m
    · rw [if_pos hi]
      have e1 := Sg.ways (k := k) (h.left hi) (by omega)
      by_cases hj : j < n
      · rw [if_pos hj]
        have e2 := Sg.ways (k := k) (h.right hj) (by omega)
        simp only [List.cons_append, List.nil_append, List.map_cons, List.map_nil, List.sum_cons, List.sum_nil]
        rw [e1, e2, show m - i = (m - (i + 1)) + 1 by omega, bin]
        omega
      · rw [if_neg hj]
        simp only [List.append_nil, List.map_cons, List.map_nil, List.sum_cons, List.sum_nil, Nat.add_zero]
        rw [e1, show m - (i + 1) = k by omega, show m - i = k + 1 by omega, binSelf, binSelf]
    · rw [if_neg hi]
      by_cases hj : j < n
      · rw [if_pos hj]
        have e2 := Sg.ways (k := k) (h.right hj) (by omega)
        simp only [List.nil_append, List.map_cons, List.map_nil, List.sum_cons, List.sum_nil, Nat.add_zero]
        rw [e2, show m - i = 0 by omega, binZ, binZ]
      · exfalso; omega
theorem Sg.uniq {m n i j s t : Nat} (h : Sg m n i j s) (h' : Sg m n i j t) : s = t := Nat.eq_of_testBit_eq fun x => by rw [h.bit, h'.bit]
def segN (m i j : Nat) : Nat := maskL (List.range i ++ (List.range j).map fun x => m + x)
theorem segIs {m n i j : Nat} (hi : i ≤ m) (hj : j ≤ n) : Sg m n i j (segN m i j) := ⟨hi, hj, fun x => by
  unfold segN
  rw [maskBit]
  refine decide_eq_decide.2 ?_
  rw [List.mem_append, List.mem_range, List.mem_map]
  constructor
  · rintro (h | ⟨y, hy, rfl⟩)
    · exact .inl h
    · have := List.mem_range.1 hy
      exact .inr (by omega)
  · rintro (h | ⟨h1, h2⟩)
    · exact .inl h
    · exact .inr ⟨x - m, List.mem_range.2 (by omega), by omega⟩⟩
theorem segInj {m n i j i' j' : Nat} (hi : i ≤ m) (hj : j ≤ n) (hi' : i' ≤ m) (hj' : j' ≤ n) (h : segN m i j = segN m i' j') : i = i' ∧ j = j' := by
  have h1 := segIs (n := n) hi hj
  have h2 := segIs (n := n) hi' hj'
  rw [h] at h1
  have key : ∀ x, (x < i ∨ (m ≤ x ∧ x < m + j)) ↔ (x < i' ∨ (m ≤ x ∧ x < m + j')) := fun x => by
    have := (h1.bit x).symm.trans (h2.bit x)
    exact decide_eq_decide.1 this
  constructor
  · have a := key i
    have b := key i'
    omega
  · have a := key (m + j)
    have b := key (m + j')
    omega
theorem segRch {m n : Nat} : ∀ {i j : Nat}, i ≤ m → j ≤ n → RchS (m + n) (hasP (chP m (m + n))) 0 (segN m i j)
  | 0, 0, _, _ => by rw [(segIs (n := n) (Nat.zero_le m) (Nat.zero_le n)).uniq (Sg.zero m n)]; exact rchRefl
  | 0, j + 1, hi, hj => by
    have h := segIs (n := n) hi (show j ≤ n by omega)
    have h2 := rchNext (segRch (m := m) (n := n) hi (show j ≤ n by omega)) (a := m + j) (by rw [h.nxt, if_pos (show j < n by omega)]; simp)
    rw [(segIs (n := n) hi hj).uniq (h.right (by omega))]
    exact h2
  | i + 1, j, hi, hj => by
    have h := segIs (n := n) (show i ≤ m by omega) hj
    have h2 := rchNext (segRch (m := m) (n := n) (show i ≤ m by omega) hj) (a := i) (by rw [h.nxt, if_pos (show i < m by omega)]; simp)
    rw [(segIs (n := n) hi hj).uniq (h.left (by omega))]
    exact h2
def segK (m n : Nat) : Nat → List Nat
  | 0 => []
  | i + 1 => segK m n i ++ (List.range (n + 1)).map (segN m i)
theorem segKLen {m n : Nat} : ∀ i, (segK m n i).length = i * (n + 1)
  | 0 => by simp [segK]
  | i + 1 => by rw [segK, List.length_append, segKLen i, List.length_map, List.length_range, Nat.add_mul, Nat.one_mul]
theorem segKMem {m n x : Nat} : ∀ {i}, x ∈ segK m n i ↔ ∃ i', i' < i ∧ ∃ j, j ≤ n ∧ x = segN m i' j
  | 0 => by simp [segK]
  | i + 1 => by
    rw [segK, List.mem_append, segKMem, List.mem_map]
    constructor
    · rintro (⟨i', h1, j, h2, e⟩ | ⟨j, h1, rfl⟩)
      · exact ⟨i', by omega, j, h2, e⟩
      · exact ⟨i, by omega, j, by have := List.mem_range.1 h1; omega, rfl⟩
    · rintro ⟨i', h1, j, h2, rfl⟩
      rcases Nat.lt_or_ge i' i with h | h
      · exact .inl ⟨i', h, j, h2, rfl⟩
      · have : i' = i := by omega
        subst this
        exact .inr ⟨j, List.mem_range.2 (by omega), rfl⟩
theorem segKNodup {m n : Nat} : ∀ {i}, i ≤ m + 1 → (segK m n i).Nodup
  | 0, _ => List.nodup_nil
  | i + 1, h => by
    rw [segK, List.nodup_append]
    refine ⟨segKNodup (by omega), ?_, fun x hx y hy e => ?_⟩
    · unfold List.Nodup
      rw [List.pairwise_iff_getElem]
      intro a b ha hb hab e
      rw [List.getElem_map, List.getElem_map, List.getElem_range, List.getElem_range] at e
      rw [List.length_map, List.length_range] at ha hb
      have := segInj (n := n) (show i ≤ m by omega) (show a ≤ n by omega) (show i ≤ m by omega) (show b ≤ n by omega) e
      omega
    · subst e
      obtain ⟨i', h1, j, h2, e1⟩ := segKMem.1 hx
      obtain ⟨j', h3, e2⟩ := List.mem_map.1 hy
      have := List.mem_range.1 h3
      have := segInj (n := n) (show i' ≤ m by omega) h2 (show i ≤ m by omega) (show j' ≤ n by omega) (e1.symm.trans e2.symm)
      omega
theorem segAll {m n x : Nat} : x ∈ segK m n (m + 1) ↔ RchS (m + n) (hasP (chP m (m + n))) 0 x := by
  rw [segKMem]
  constructor
  · rintro ⟨i, h1, j, h2, rfl⟩
    exact segRch (by omega) h2
  · rintro ⟨t, ht, rfl⟩
    obtain ⟨i, j, h⟩ := closedRch (M := fun s => ∃ i j, Sg m n i j s) (N := m + n) (f := hasP (chP m (m + n))) (fun s ⟨i, j, h⟩ a ha => by
      rw [h.nxt, List.mem_append] at ha
      rcases ha with ha | ha
      · split at ha
        · rename_i hi
          rw [List.mem_singleton] at ha
          subst ha
          exact ⟨_, _, h.left hi⟩
        · cases ha
      · split at ha
        · rename_i hj
          rw [List.mem_singleton] at ha
          subst ha
          exact ⟨_, _, h.right hj⟩
        · cases ha) t 0 ⟨0, 0, Sg.zero m n⟩ ht
    exact ⟨i, by have := h.hi; omega, j, h.hj, h.uniq (segIs h.hi h.hj)⟩
theorem chDown {m n : Nat} {D : List Nat} (h : VisT (m + n) (hasP (chP m (m + n))) D) (h0 : 0 ∈ D) : D.length = (m + 1) * (n + 1) := by
  rw [h.len h0 (segKNodup (Nat.le_refl _)) fun x => segAll, segKLen]
theorem chDwnLe {m n : Nat} (hm : m ≤ 32) (hn : n ≤ 32) (D : List Nat) (h : VisT (m + n) (hasP (chP m (m + n))) D) : D.length ≤ 65536 := by
  have := h.le (K := segK m n (m + 1)) fun x hx => segAll.2 hx
  rw [segKLen] at this
  have h2 : (m + 1) * (n + 1) ≤ 33 * 33 := Nat.mul_le_mul (by omega) (by omega)
  omega
theorem chWays {m n : Nat} : ways (m + n) (hasP (chP m (m + n))) (m + n) 0 = bin (m + n) m := by
  have := Sg.ways (k := m + n) (Sg.zero m n) (by omega)
  rw [this]; rfl
end Go.Proofs.YthigdniepifohaaDoor
