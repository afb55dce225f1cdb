/-
  Plain facts about the lengths of ways: the fewest pairs that lead from one element to another, the shortest cycle and the first of the shortest. Without any program.
-/
import Derived.Test.YtpfdhjmhoggioaaRelMath
namespace Go.Proofs.Ytpfdhjmhoggioaa

/-- There is a way of k + 1 pairs from a to b. -/
def wk (n : Nat) (f : Nat → Nat → Bool) : Nat → Nat → Nat → Bool
  | 0, a, b => f a b
  | k + 1, a, b => (List.range n).any fun x => f a x && wk n f k x b
theorem wkSucc {n : Nat} {f : Nat → Nat → Bool} {k a b : Nat} : wk n f (k + 1) a b = true ↔ ∃ x, x < n ∧ f a x = true ∧ wk n f k x b = true := by
  rw [wk, List.any_eq_true]
  constructor
  · rintro ⟨x, h1, h2⟩
    rw [Bool.and_eq_true] at h2
    exact ⟨x, List.mem_range.1 h1, h2⟩
  · rintro ⟨x, h1, h2⟩
    exact ⟨x, List.mem_range.2 h1, by rw [Bool.and_eq_true]; exact h2⟩
theorem wkWy {n : Nat} {f : Nat → Nat → Bool} : ∀ {k a b : Nat}, wk n f k a b = true → Wy f n a b
  | 0, _, _, h => wyOne h
  | k + 1, a, b, h => by
    obtain ⟨x, hx, h1, h2⟩ := wkSucc.1 h
    exact wyCons hx h1 (wkWy h2)
theorem wyWk {n : Nat} {f : Nat → Nat → Bool} {a b : Nat} (h : Wy f n a b) : ∃ k, wk n f k a b = true := by
  obtain ⟨L, h1, h2⟩ := h
  induction L generalizing a with
  | nil => exact ⟨0, h2⟩
  | cons x L ih =>
    obtain ⟨k, hk⟩ := ih (fun y hy => h1 y (by simp [hy])) h2.2
    exact ⟨k + 1, wkSucc.2 ⟨x, h1 x (by simp), h2.1, hk⟩⟩
theorem leastOf {p : Nat → Bool} : ∀ k, p k = true → ∃ m, p m = true ∧ ∀ j, j < m → p j = false := by
  intro k
  induction k using Nat.strongRecOn with
  | _ k ih =>
    intro h
    by_cases hj : ∃ j, j < k ∧ p j = true
    · obtain ⟨j, h1, h2⟩ := hj
      exact ih j h1 h2
    · refine ⟨k, h, fun j hj' => ?_⟩
      cases e : p j
      · rfl
      · exact absurd ⟨j, hj', e⟩ hj
open Classical in
/-- The fewest pairs, at least one, that lead from a to b; 0 where none do. -/
noncomputable def dst (n : Nat) (f : Nat → Nat → Bool) (a b : Nat) : Nat :=
  if h : ∃ k, wk n f k a b = true then (choose (leastOf (p := fun k => wk n f k a b) _ (choose_spec h))) + 1 else 0
theorem dstZero {n : Nat} {f : Nat → Nat → Bool} {a b : Nat} : dst n f a b = 0 ↔ ∀ k, wk n f k a b = false := by
  unfold dst
  split
  · rename_i h
    obtain ⟨k, hk⟩ := h
    constructor
    · intro h; omega
    · intro h; rw [h k] at hk; cases hk
  · rename_i h
    refine ⟨fun _ k => ?_, fun _ => rfl⟩
    cases e : wk n f k a b
    · rfl
    · exact absurd ⟨k, e⟩ h
theorem dstSucc {n : Nat} {f : Nat → Nat → Bool} {a b k : Nat} : dst n f a b = k + 1 ↔ wk n f k a b = true ∧ ∀ j, j < k → wk n f j a b = false := by
  unfold dst
  split
  · rename_i h
    have hs := Classical.choose_spec (leastOf (p := fun k => wk n f k a b) _ (Classical.choose_spec h))
    generalize Classical.choose (leastOf (p := fun k => wk n f k a b) _ (Classical.choose_spec h)) = m at *
    constructor
    · intro e
      obtain rfl : m = k := by omega
      exact hs
    · rintro ⟨h1, h2⟩
      rcases Nat.lt_trichotomy m k with h3 | h3 | h3
      · have := h2 m h3; rw [hs.1] at this; cases this
      · omega
      · have := hs.2 k h3; rw [h1] at this; cases this
  · rename_i h
    refine ⟨fun e => by omega, fun ⟨h1, _⟩ => absurd ⟨k, h1⟩ h⟩
theorem dstLe {n : Nat} {f : Nat → Nat → Bool} {a b k : Nat} (h : wk n f k a b = true) : 0 < dst n f a b ∧ dst n f a b ≤ k + 1 := by
  rcases e : dst n f a b with _ | m
  · have := dstZero.1 e k; rw [h] at this; cases this
  · refine ⟨by omega, ?_⟩
    by_cases hm : m ≤ k
    · omega
    · have := (dstSucc.1 e).2 k (by omega); rw [h] at this; cases this
theorem dstWk {n : Nat} {f : Nat → Nat → Bool} {a b : Nat} (h : 0 < dst n f a b) : wk n f (dst n f a b - 1) a b = true := by
  obtain ⟨m, e⟩ : ∃ m, dst n f a b = m + 1 := ⟨dst n f a b - 1, by omega⟩
  rw [e]
  exact (dstSucc.1 e).1
theorem dstOne {n : Nat} {f : Nat → Nat → Bool} {a b : Nat} : dst n f a b = 1 ↔ f a b = true := by
  rw [dstSucc]
  exact ⟨fun h => h.1, fun h => ⟨h, fun j hj => by omega⟩⟩
/-- One pair more: to an element that is one nearer. -/
theorem dstNext {n : Nat} {f : Nat → Nat → Bool} {a b d : Nat} (hd : 0 < d) : dst n f a b = d + 1 ↔ ¬(0 < dst n f a b ∧ dst n f a b ≤ d) ∧ ∃ x, x < n ∧ f a x = true ∧ dst n f x b = d := by
  constructor
  · intro e
    refine ⟨by omega, ?_⟩
    obtain ⟨h1, h2⟩ := dstSucc.1 e
    obtain ⟨m, rfl⟩ : ∃ m, d = m + 1 := ⟨d - 1, by omega⟩
    obtain ⟨x, hx, h3, h4⟩ := wkSucc.1 h1
    refine ⟨x, hx, h3, dstSucc.2 ⟨h4, fun j hj => ?_⟩⟩
    cases e' : wk n f j x b
    · rfl
    · have := h2 (j + 1) (by omega)
      rw [wkSucc.2 ⟨x, hx, h3, e'⟩] at this
      cases this
  · rintro ⟨h1, x, hx, h2, h3⟩
    obtain ⟨m, rfl⟩ : ∃ m, d = m + 1 := ⟨d - 1, by omega⟩
    have := dstLe (wkSucc.2 ⟨x, hx, h2, (dstSucc.1 h3).1⟩)
    omega
/-- What is d + 1 away has something that is d away. -/
theorem dstDown {n : Nat} {f : Nat → Nat → Bool} {b : Nat} : ∀ {k a : Nat} (d : Nat), 0 < d → a < n → dst n f a b = d + k → ∃ x, x < n ∧ dst n f x b = d
  | 0, a, d, _, ha, h => ⟨a, ha, h⟩
  | k + 1, a, d, hd, ha, h => by
    obtain ⟨_, x, hx, _, h2⟩ := (dstNext (by omega)).1 (show dst n f a b = (d + k) + 1 by omega)
    exact dstDown (k := k) d hd hx h2
theorem nodupLe : ∀ {n : Nat} {l : List Nat}, l.Nodup → (∀ x ∈ l, x < n) → l.length ≤ n
  | 0, [], _, _ => Nat.le_refl _
  | 0, x :: l, _, h => absurd (h x (by simp)) (by omega)
  | n + 1, l, hn, h => by
    have h1 := nodupLe (n := n) (l := l.filter (· != n)) (hn.filter _) fun x hx => by
      rw [List.mem_filter] at hx
      have := h x hx.1
      have : x ≠ n := by simpa using hx.2
      omega
    have h2 : l.length ≤ (l.filter (· != n)).length + 1 := by
      clear h1 h
      induction l with
      | nil => simp
      | cons y l ih =>
        have hy := List.nodup_cons.1 hn
        by_cases e : y = n
        · subst e
          have : l.filter (· != y) = l := List.filter_eq_self.2 fun x hx => by
            have : x ≠ y := fun e => hy.1 (e ▸ hx)
            simpa using this
          rw [List.filter_cons_of_neg (by simp), this]
          simp
        · rw [List.filter_cons_of_pos (by simpa using e)]
          have := ih hy.2
          simp
          omega
    omega
/-- The distances go no further than the number of the elements. -/
theorem dstMax {n : Nat} {f : Nat → Nat → Bool} {a b : Nat} (ha : a < n) : dst n f a b ≤ n := by
  rcases Nat.eq_zero_or_pos (dst n f a b) with h0 | h0
  · omega
  have hex : ∀ d, d < dst n f a b → ∃ x, x < n ∧ dst n f x b = d + 1 := fun d hd =>
    dstDown (k := dst n f a b - (d + 1)) (d + 1) (by omega) ha (by omega)
  have : ∀ m, m ≤ dst n f a b → ∃ l : List Nat, l.length = m ∧ l.Nodup ∧ (∀ x ∈ l, x < n ∧ 0 < dst n f x b ∧ dst n f x b ≤ m) := by
    intro m
    induction m with
    | zero => exact fun _ => ⟨[], rfl, List.nodup_nil, by simp⟩
    | succ m ih =>
      intro hm
      obtain ⟨l, h1, h2, h3⟩ := ih (by omega)
      obtain ⟨x, hx, hd⟩ := hex m (by omega)
      refine ⟨x :: l, by simp [h1], List.nodup_cons.2 ⟨fun h => ?_, h2⟩, fun y hy => ?_⟩
      · have := (h3 x h).2.2; omega
      · rcases List.mem_cons.1 hy with rfl | hy
        · exact ⟨hx, by omega, by omega⟩
        · have := h3 y hy; exact ⟨this.1, this.2.1, by omega⟩
  obtain ⟨l, h1, h2, h3⟩ := this _ (Nat.le_refl _)
  rw [← h1]
  exact nodupLe h2 fun x hx => (h3 x hx).1
theorem dstTc {n : Nat} {f : Nat → Nat → Bool} {a b : Nat} : 0 < dst n f a b ↔ tcT n f a b = true := by
  rw [tcIff]
  constructor
  · intro h; exact wkWy (dstWk h)
  · intro h
    obtain ⟨k, hk⟩ := wyWk h
    exact (dstLe hk).1

/-- What is known behind d rounds: the distances up to d, 0 for the rest. -/
noncomputable def dsU (n : Nat) (f : Nat → Nat → Bool) (b d a : Nat) : Nat := if dst n f a b ≤ d then dst n f a b else 0
theorem dsUzero {n : Nat} {f : Nat → Nat → Bool} {b a : Nat} : dsU n f b 0 a = 0 := by unfold dsU; split <;> omega
theorem dsUall {n : Nat} {f : Nat → Nat → Bool} {b a d : Nat} (h : dst n f a b ≤ d) : dsU n f b d a = dst n f a b := by unfold dsU; rw [if_pos h]
theorem dsUpos {n : Nat} {f : Nat → Nat → Bool} {b a d : Nat} : dsU n f b d a ≠ 0 ↔ 0 < dst n f a b ∧ dst n f a b ≤ d := by unfold dsU; split <;> omega
/-- One round: what was not known and has a pair to something that is d away (or, in the first round, to b itself) is d + 1 away. -/
theorem dsUsucc {n : Nat} {f : Nat → Nat → Bool} {b a d : Nat} :
    dsU n f b (d + 1) a = if dsU n f b d a ≠ 0 then dsU n f b d a else if (d = 0 ∧ f a b = true) ∨ (0 < d ∧ ∃ x, x < n ∧ f a x = true ∧ dst n f x b = d) then d + 1 else 0 := by
  by_cases h0 : dsU n f b d a ≠ 0
  · rw [if_pos h0]
    have := dsUpos.1 h0
    rw [dsUall (by omega), dsUall this.2]
  · rw [if_neg h0]
    have hn : ¬(0 < dst n f a b ∧ dst n f a b ≤ d) := fun h => h0 (dsUpos.2 h)
    by_cases hd : d = 0
    · subst hd
      by_cases hf : f a b = true
      · rw [if_pos (.inl ⟨rfl, hf⟩)]
        rw [dsUall (by rw [dstOne.2 hf]; omega), dstOne.2 hf]
      · rw [if_neg (by rintro (⟨_, h⟩ | ⟨h, _⟩); exact hf h; omega)]
        unfold dsU
        split
        · rename_i h
          by_cases h1 : dst n f a b = 1
          · exact absurd (dstOne.1 h1) hf
          · omega
        · rfl
    · by_cases hx : ∃ x, x < n ∧ f a x = true ∧ dst n f x b = d
      · rw [if_pos (.inr ⟨by omega, hx⟩)]
        have := (dstNext (by omega)).2 ⟨hn, hx⟩
        rw [dsUall (by omega), this]
      · rw [if_neg (by rintro (⟨h, _⟩ | ⟨_, h⟩); exact hd h; exact hx h)]
        unfold dsU
        split
        · rename_i h
          by_cases h1 : dst n f a b = d + 1
          · exact absurd ((dstNext (by omega)).1 h1).2 hx
          · omega
        · rfl

/-! The first of the shortest cycles. -/
/-- The first of the elements below k that begin a shortest cycle. -/
noncomputable def bst (n : Nat) (f : Nat → Nat → Bool) : Nat → Option Nat
  | 0 => none
  | k + 1 => match bst n f k with
    | none => if 0 < dst n f k k then some k else none
    | some s => if 0 < dst n f k k ∧ dst n f k k < dst n f s s then some k else some s
theorem bstSome {n : Nat} {f : Nat → Nat → Bool} : ∀ {k s : Nat}, bst n f k = some s → s < k ∧ 0 < dst n f s s
  | 0, _, h => by cases h
  | k + 1, s, h => by
    unfold bst at h
    split at h
    · split at h
      · rename_i h1; injection h with h; subst h; exact ⟨by omega, h1⟩
      · cases h
    · rename_i t ht
      have := bstSome ht
      split at h
      · rename_i h1; injection h with h; subst h; exact ⟨by omega, h1.1⟩
      · injection h with h; subst h; exact ⟨by omega, this.2⟩
theorem bstNone {n : Nat} {f : Nat → Nat → Bool} : ∀ {k : Nat}, bst n f k = none ↔ ∀ a, a < k → dst n f a a = 0
  | 0 => by simp [bst]
  | k + 1 => by
    have ih := bstNone (n := n) (f := f) (k := k)
    unfold bst
    split
    · rename_i h
      have h1 := ih.1 h
      split
      · rename_i h2
        simp only [reduceCtorEq, false_iff]
        intro h3; have := h3 k (by omega); omega
      · rename_i h2
        simp only [true_iff]
        intro a ha
        by_cases e : a = k
        · subst e; omega
        · exact h1 a (by omega)
    · rename_i s h
      have h1 := bstSome h
      have : ¬ ∀ a, a < k + 1 → dst n f a a = 0 := fun h3 => by have := h3 s (by omega); omega
      split <;> simp [this]
/-- From a, the first element to which a pair leads and which is d away. -/
noncomputable def nxt (n : Nat) (f : Nat → Nat → Bool) (b d a : Nat) : Nat := ((List.range n).find? fun x => f a x && dst n f x b == d).getD 0
theorem nxtIs {n : Nat} {f : Nat → Nat → Bool} {b d a : Nat} (hd : 0 < d) (h : dst n f a b = d + 1) :
    nxt n f b d a < n ∧ f a (nxt n f b d a) = true ∧ dst n f (nxt n f b d a) b = d ∧ ∀ x, x < nxt n f b d a → ¬(f a x = true ∧ dst n f x b = d) := by
  obtain ⟨_, x, hx, h1, h2⟩ := (dstNext hd).1 h
  unfold nxt
  rcases e : (List.range n).find? fun x => f a x && dst n f x b == d with _ | y
  · rw [List.find?_eq_none] at e
    have := e x (List.mem_range.2 hx)
    simp [h1, h2] at this
  · have hy := List.find?_some e
    have hm := List.mem_of_find?_eq_some e
    rw [Bool.and_eq_true, beq_iff_eq] at hy
    refine ⟨List.mem_range.1 hm, hy.1, hy.2, fun z hz hc => ?_⟩
    simp only [Option.getD_some] at hz
    rw [List.find?_range_eq_some] at e
    have := e.2.2 z hz
    simp [hc.1, hc.2] at this
/-- What follows a on the first of the shortest ways to b, d - 1 elements. -/
noncomputable def wlk (n : Nat) (f : Nat → Nat → Bool) (b : Nat) : Nat → Nat → List Nat
  | 0, _ => []
  | d + 1, a => nxt n f b (d + 1) a :: wlk n f b d (nxt n f b (d + 1) a)
/-- The first of the shortest cycles. -/
noncomputable def cyc (n : Nat) (f : Nat → Nat → Bool) : List Nat := match bst n f n with
  | none => []
  | some s => s :: wlk n f s (dst n f s s - 1) s
theorem wlkLen {n : Nat} {f : Nat → Nat → Bool} {b : Nat} : ∀ {d a : Nat}, (wlk n f b d a).length = d
  | 0, _ => rfl
  | d + 1, a => by rw [wlk, List.length_cons, wlkLen]
theorem wlkLt {n : Nat} {f : Nat → Nat → Bool} {b : Nat} : ∀ {d a : Nat}, dst n f a b = d + 1 → ∀ x ∈ wlk n f b d a, x < n
  | 0, _, _, x, hx => by cases hx
  | d + 1, a, h, x, hx => by
    have hn := nxtIs (by omega) h
    rcases List.mem_cons.1 hx with rfl | hx
    · exact hn.1
    · exact wlkLt hn.2.2.1 x hx
/-- The last element of the way has a pair to b. -/
theorem wlkLast {n : Nat} {f : Nat → Nat → Bool} {b : Nat} : ∀ {d a : Nat}, dst n f a b = d + 1 → f ((a :: wlk n f b d a).getLast (by simp)) b = true
  | 0, a, h => dstOne.1 h
  | d + 1, a, h => by
    have hn := nxtIs (by omega) h
    have := wlkLast hn.2.2.1
    rw [List.getLast_cons (by rw [wlk]; simp)]
    exact this
theorem cycLast {n : Nat} {f : Nat → Nat → Bool} {s : Nat} (h : bst n f n = some s) : ∃ t, cyc n f = s :: t ∧ s < n ∧ (∀ x ∈ t, x < n) ∧ f ((s :: t).getLast (by simp)) s = true := by
  have h1 := bstSome h
  have h2 : dst n f s s = (dst n f s s - 1) + 1 := by omega
  refine ⟨wlk n f s (dst n f s s - 1) s, by unfold cyc; rw [h], h1.1, wlkLt h2, wlkLast h2⟩
theorem bstAcy {n : Nat} {f : Nat → Nat → Bool} : bst n f n = none ↔ acyT n (tcT n f) := by
  rw [bstNone]
  constructor
  · intro h a ha
    have := h a ha
    cases e : tcT n f a a
    · rfl
    · have := dstTc.2 e; omega
  · intro h a ha
    have := h a ha
    rcases Nat.eq_zero_or_pos (dst n f a a) with h0 | h0
    · exact h0
    · rw [dstTc.1 h0] at this; cases this
end Go.Proofs.Ytpfdhjmhoggioaa
