/-
  Plain facts about tables that are filled one place after another: what the reference's loops keep. Without any program.
-/
import Derived.Test.YtpfdhjmhoggioaaRelDist
namespace Go.Proofs.Ytpfdhjmhoggioaa

theorem rowSnoc (f : Nat → Nat → Bool) (a : Nat) : ∀ k b, rowP f a b (k + 1) = rowP f a b k ++ (if f a (b + k) then [((a : Int), ((b + k : Nat) : Int))] else [])
  | 0, b => by simp [rowP]
  | k + 1, b => by
    rw [rowP, rowSnoc f a k (b + 1), rowP, ← List.append_assoc, show b + 1 + k = b + (k + 1) by omega]
theorem nrmSnoc (f : Nat → Nat → Bool) (n : Nat) : ∀ k a, nrmFrom f n a (k + 1) = nrmFrom f n a k ++ rowP f (a + k) 0 n
  | 0, a => by simp [nrmFrom]
  | k + 1, a => by
    rw [nrmFrom, nrmSnoc f n k (a + 1), nrmFrom, ← List.append_assoc, show a + 1 + k = a + (k + 1) by omega]
/-- The pairs ahead of the place (a, b). -/
def listTo (f : Nat → Nat → Bool) (n a b : Nat) : Prs := nrmFrom f n 0 a ++ rowP f a 0 b
theorem listYes {f : Nat → Nat → Bool} {n a b : Nat} (h : f a b = true) : listTo f n a (b + 1) = listTo f n a b ++ [((a : Int), (b : Int))] := by
  unfold listTo
  rw [rowSnoc, Nat.zero_add, if_pos h, List.append_assoc]
theorem listNo {f : Nat → Nat → Bool} {n a b : Nat} (h : f a b = false) : listTo f n a (b + 1) = listTo f n a b := by
  unfold listTo
  rw [rowSnoc, Nat.zero_add, if_neg (by rw [h]; simp), List.append_nil]
theorem listRow {f : Nat → Nat → Bool} {n a : Nat} : listTo f n a n = listTo f n (a + 1) 0 := by
  unfold listTo
  rw [nrmSnoc, Nat.zero_add]
  simp [rowP]
theorem listEnd {f : Nat → Nat → Bool} {n : Nat} : listTo f n n 0 = nrm n f := by simp [listTo, nrm, rowP]
theorem listLen {f : Nat → Nat → Bool} {n a b : Nat} (ha : a ≤ n) (hb : b ≤ n) : (listTo f n a b).length ≤ n * n + n := by
  unfold listTo
  rw [List.length_append]
  have h1 := lenNrmFrom f n a 0
  have h2 := lenRow f a b 0
  have h3 := Nat.mul_le_mul_right n ha
  omega

/-- F with v at (a, b). -/
def updT (F : Nat → Nat → Bool) (a b : Nat) (v : Bool) (x y : Nat) : Bool := if x = a ∧ y = b then v else F x y

/-! Composition, place by place. -/
def cmpUp (f g : Nat → Nat → Bool) (j a c : Nat) : Bool := (List.range j).any fun b => f a b && g b c
theorem cmpUpSucc {f g : Nat → Nat → Bool} {j a c : Nat} : cmpUp f g (j + 1) a c = (cmpUp f g j a c || (f a j && g j c)) := by
  unfold cmpUp
  rw [List.range_succ, List.any_append, List.any_cons, List.any_nil, Bool.or_false]
def comTo (n : Nat) (f g : Nat → Nat → Bool) (i j k a c : Nat) : Bool :=
  if a < i then cmpT n f g a c else if a = i then (cmpUp f g j a c || (decide (c < k) && (f i j && g j c))) else false
theorem comStart {n : Nat} {f g : Nat → Nat → Bool} {a c : Nat} : comTo n f g 0 0 0 a c = false := by
  unfold comTo cmpUp
  rw [if_neg (by omega)]
  simp
theorem comStep {n : Nat} {f g : Nat → Nat → Bool} {i j k : Nat} (h : f i j = true) (x y : Nat) : updT (comTo n f g i j k) i k (comTo n f g i j k i k || g j k) x y = comTo n f g i j (k + 1) x y := by
  unfold updT comTo
  by_cases hx : x = i
  · subst hx
    simp only [Nat.lt_irrefl, if_false, if_true, true_and, decide_false, Bool.false_and, Bool.or_false]
    by_cases hy : y = k
    · subst hy
      rw [if_pos rfl, h, decide_eq_true (by omega : y < y + 1)]
      simp
    · rw [if_neg hy]
      congr 2
      rw [decide_eq_decide]
      omega
  · rw [if_neg (by omega)]
    simp [hx]
theorem comRow {n : Nat} {f g : Nat → Nat → Bool} {i j k : Nat} (h : k = n ∨ f i j = false) {x y : Nat} (hy : y < n) : comTo n f g i j k x y = comTo n f g i (j + 1) 0 x y := by
  unfold comTo
  rw [cmpUpSucc]
  by_cases hx : x = i
  · subst hx
    rcases h with rfl | h
    · simp [hy]
    · simp [h]
  · simp [hx]
theorem comNext {n : Nat} {f g : Nat → Nat → Bool} {i x y : Nat} : comTo n f g i n 0 x y = comTo n f g (i + 1) 0 0 x y := by
  unfold comTo
  by_cases h1 : x < i
  · rw [if_pos h1, if_pos (by omega)]
  · by_cases h2 : x = i
    · subst h2
      rw [if_neg h1, if_pos rfl, if_pos (by omega)]
      simp [cmpUp, cmpT]
    · rw [if_neg h1, if_neg h2, if_neg (by omega)]
      simp [cmpUp]
theorem comEnd {n : Nat} {f g : Nat → Nat → Bool} {x y : Nat} (hx : x < n) : comTo n f g n 0 0 x y = cmpT n f g x y := by unfold comTo; rw [if_pos hx]

/-! Warshall's table, place by place. -/
noncomputable def wsTo (f : Nat → Nat → Bool) (m a b x y : Nat) : Bool := if x < a ∨ (x = a ∧ y < b) then wsT f (m + 1) x y else wsT f m x y
theorem wsToCol {f : Nat → Nat → Bool} {m a b x : Nat} : wsTo f m a b x m = wsT f m x m := by unfold wsTo; rw [wsCol, ite_self]
theorem wsToRowM {f : Nat → Nat → Bool} {m a b y : Nat} : wsTo f m a b m y = wsT f m m y := by unfold wsTo; rw [wsRow, ite_self]
theorem wsToAt {f : Nat → Nat → Bool} {m a b : Nat} : wsTo f m a b a b = wsT f m a b := by unfold wsTo; rw [if_neg (by omega)]
theorem wsToStep {f : Nat → Nat → Bool} {m a b : Nat} (h : wsT f m a m = true) (x y : Nat) : updT (wsTo f m a b) a b (wsTo f m a b a b || wsTo f m a b m b) x y = wsTo f m a (b + 1) x y := by
  rw [wsToAt, wsToRowM]
  unfold updT
  by_cases e : x = a ∧ y = b
  · obtain ⟨rfl, rfl⟩ := e
    rw [if_pos ⟨rfl, rfl⟩]
    unfold wsTo
    rw [if_pos (by omega), wsSucc, h, Bool.true_and]
  · rw [if_neg e]
    unfold wsTo
    by_cases h1 : x < a ∨ (x = a ∧ y < b)
    · rw [if_pos h1, if_pos (by omega)]
    · rw [if_neg h1, if_neg (by omega)]
theorem wsToRow {n : Nat} {f : Nat → Nat → Bool} {m a b : Nat} (h : b = n ∨ wsT f m a m = false) {x y : Nat} (hy : y < n) : wsTo f m a b x y = wsTo f m (a + 1) 0 x y := by
  unfold wsTo
  by_cases h1 : x = a
  · subst h1
    rw [if_pos (show x < x + 1 ∨ (x = x + 1 ∧ y < 0) by omega)]
    by_cases h2 : y < b
    · rw [if_pos (by omega)]
    · rcases h with rfl | h
      · omega
      · rw [if_neg (by omega), wsSucc, h, Bool.false_and, Bool.or_false]
  · by_cases h2 : x < a
    · rw [if_pos (by omega), if_pos (by omega)]
    · rw [if_neg (by omega), if_neg (by omega)]
theorem wsToNext {n : Nat} {f : Nat → Nat → Bool} {m x y : Nat} (hx : x < n) : wsTo f m n 0 x y = wsTo f (m + 1) 0 0 x y := by
  unfold wsTo
  rw [if_pos (by omega), if_neg (by omega)]
theorem wsToStart {f : Nat → Nat → Bool} {x y : Nat} : wsTo f 0 0 0 x y = f x y := by unfold wsTo; rw [if_neg (by omega), wsZero]
theorem wsToEnd {n : Nat} {f : Nat → Nat → Bool} {x y : Nat} : wsTo f n 0 0 x y = tcT n f x y := by unfold wsTo; rw [if_neg (by omega), wsEnd]

/-! The reduction, place by place. -/
def rdTo (n : Nat) (t : Nat → Nat → Bool) (a b x y : Nat) : Bool := decide (x < a ∨ (x = a ∧ y < b)) && redT n t x y
def rdIn (n : Nat) (t : Nat → Nat → Bool) (a b k x y : Nat) : Bool := if x = a ∧ y = b then (t a b && !cmpUp t t k a b) else rdTo n t a b x y
theorem rdStart {n : Nat} {t : Nat → Nat → Bool} {x y : Nat} : rdTo n t 0 0 x y = false := by unfold rdTo; rw [decide_eq_false (by omega), Bool.false_and]
theorem rdPut {n : Nat} {t : Nat → Nat → Bool} {a b : Nat} (x y : Nat) : updT (rdTo n t a b) a b (t a b) x y = rdIn n t a b 0 x y := by
  unfold updT rdIn cmpUp
  simp
theorem rdHit {n : Nat} {t : Nat → Nat → Bool} {a b k : Nat} (h : t a k = true) (h' : t k b = true) (x y : Nat) : updT (rdIn n t a b k) a b false x y = rdIn n t a b (k + 1) x y := by
  unfold updT rdIn
  by_cases e : x = a ∧ y = b
  · rw [if_pos e, if_pos e, cmpUpSucc, h, h']; simp
  · rw [if_neg e, if_neg e, if_neg e]
theorem rdMiss {n : Nat} {t : Nat → Nat → Bool} {a b k : Nat} (h : t a k = false ∨ t k b = false) (x y : Nat) : rdIn n t a b k x y = rdIn n t a b (k + 1) x y := by
  unfold rdIn
  rw [cmpUpSucc]
  rcases h with h | h <;> rw [h] <;> simp
theorem rdNext {n : Nat} {t : Nat → Nat → Bool} {a b : Nat} (x y : Nat) : rdIn n t a b n x y = rdTo n t a (b + 1) x y := by
  unfold rdIn rdTo
  by_cases e : x = a ∧ y = b
  · obtain ⟨rfl, rfl⟩ := e
    rw [if_pos ⟨rfl, rfl⟩, decide_eq_true (by omega), Bool.true_and]
    rfl
  · rw [if_neg e]
    congr 1
    rw [decide_eq_decide]
    omega
theorem rdRow {n : Nat} {t : Nat → Nat → Bool} {a x y : Nat} (hy : y < n) : rdTo n t a n x y = rdTo n t (a + 1) 0 x y := by
  unfold rdTo
  congr 1
  rw [decide_eq_decide]
  omega
theorem rdEnd {n : Nat} {t : Nat → Nat → Bool} {x y : Nat} (hx : x < n) : rdTo n t n 0 x y = redT n t x y := by unfold rdTo; rw [decide_eq_true (by omega), Bool.true_and]
end Go.Proofs.Ytpfdhjmhoggioaa
