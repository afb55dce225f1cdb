/-
  Plain facts about finite relations: as tables, as lists of pairs in order, closed under composition. Without any program.
-/
namespace Go.Proofs.Ytpfdhjmhoggioaa

/-- Pairs of numbers. -/
abbrev Prs := List (Int × Int)
/-- A relation is valid: n up to 64, both elements of each pair below n. -/
def okR (n : Int) (l : Prs) : Bool := decide (0 ≤ n ∧ n ≤ 64 ∧ ∀ p ∈ l, 0 ≤ p.1 ∧ p.1 < n ∧ 0 ≤ p.2 ∧ p.2 < n)
/-- Which pairs a list contains. -/
def hasP (l : Prs) (a b : Nat) : Bool := decide (((a : Int), (b : Int)) ∈ l)
/-- The pairs of one row of a table, from column b on, k columns. -/
def rowP (f : Nat → Nat → Bool) (a : Nat) : Nat → Nat → Prs
  | _, 0 => []
  | b, k + 1 => (if f a b then [((a : Int), (b : Int))] else []) ++ rowP f a (b + 1) k
/-- The pairs of a table, from row a on, k rows, n columns. -/
def nrmFrom (f : Nat → Nat → Bool) (n : Nat) : Nat → Nat → Prs
  | _, 0 => []
  | a, k + 1 => rowP f a 0 n ++ nrmFrom f n (a + 1) k
/-- The pairs of a table below n, in order. -/
def nrm (n : Nat) (f : Nat → Nat → Bool) : Prs := nrmFrom f n 0 n
theorem rowMem (f : Nat → Nat → Bool) (a : Nat) (x y : Int) : ∀ k b, (x, y) ∈ rowP f a b k ↔ x = (a : Int) ∧ ∃ c : Nat, y = (c : Int) ∧ b ≤ c ∧ c < b + k ∧ f a c = true
  | 0, b => by simp only [rowP, List.not_mem_nil, false_iff]; rintro ⟨_, c, _, h1, h2, _⟩; omega
  | k + 1, b => by
    rw [rowP, List.mem_append, rowMem f a x y k (b + 1)]
    constructor
    · rintro (h | ⟨h1, c, h2, h3, h4, h5⟩)
      · split at h
        · rename_i hf
          simp only [List.mem_singleton, Prod.mk.injEq] at h
          exact ⟨h.1, b, h.2, Nat.le_refl _, by omega, hf⟩
        · cases h
      · exact ⟨h1, c, h2, by omega, by omega, h5⟩
    · rintro ⟨h1, c, h2, h3, h4, h5⟩
      by_cases e : c = b
      · subst e
        exact Or.inl (by rw [if_pos h5]; simp [h1, h2])
      · exact Or.inr ⟨h1, c, h2, by omega, by omega, h5⟩
theorem nrmFromMem (f : Nat → Nat → Bool) (n : Nat) (x y : Int) : ∀ k a, (x, y) ∈ nrmFrom f n a k ↔ ∃ d c : Nat, x = (d : Int) ∧ y = (c : Int) ∧ a ≤ d ∧ d < a + k ∧ c < n ∧ f d c = true
  | 0, a => by simp only [nrmFrom, List.not_mem_nil, false_iff]; rintro ⟨d, c, _, _, h1, h2, _⟩; omega
  | k + 1, a => by
    rw [nrmFrom, List.mem_append, rowMem, nrmFromMem f n x y k (a + 1)]
    constructor
    · rintro (⟨h1, c, h2, _, h4, h5⟩ | ⟨d, c, h1, h2, h3, h4, h5⟩)
      · exact ⟨a, c, h1, h2, Nat.le_refl _, by omega, by omega, h5⟩
      · exact ⟨d, c, h1, h2, by omega, by omega, h5⟩
    · rintro ⟨d, c, h1, h2, h3, h4, h5, h6⟩
      by_cases e : d = a
      · subst e
        exact Or.inl ⟨h1, c, h2, Nat.zero_le _, by omega, h6⟩
      · exact Or.inr ⟨d, c, h1, h2, by omega, by omega, h5, h6⟩
theorem nrmMem {n : Nat} {f : Nat → Nat → Bool} {x y : Int} : (x, y) ∈ nrm n f ↔ ∃ d c : Nat, x = (d : Int) ∧ y = (c : Int) ∧ d < n ∧ c < n ∧ f d c = true := by
  unfold nrm
  rw [nrmFromMem]
  constructor
  · rintro ⟨d, c, h1, h2, _, h4, h5, h6⟩; exact ⟨d, c, h1, h2, by omega, h5, h6⟩
  · rintro ⟨d, c, h1, h2, h4, h5, h6⟩; exact ⟨d, c, h1, h2, Nat.zero_le _, by omega, h5, h6⟩
theorem hasNrm {n : Nat} {f : Nat → Nat → Bool} {a b : Nat} (ha : a < n) (hb : b < n) : hasP (nrm n f) a b = f a b := by
  unfold hasP
  rw [Bool.eq_iff_iff, decide_eq_true_iff, nrmMem]
  constructor
  · rintro ⟨d, c, h1, h2, _, _, h⟩
    obtain rfl : a = d := by omega
    obtain rfl : b = c := by omega
    exact h
  · intro h; exact ⟨a, b, rfl, rfl, ha, hb, h⟩
theorem rowCongr {f g : Nat → Nat → Bool} {a : Nat} : ∀ {k b : Nat}, (∀ c, b ≤ c → c < b + k → f a c = g a c) → rowP f a b k = rowP g a b k
  | 0, _, _ => rfl
  | k + 1, b, h => by rw [rowP, rowP, h b (Nat.le_refl _) (by omega), rowCongr fun c h1 h2 => h c (by omega) (by omega)]
theorem nrmFromCongr {f g : Nat → Nat → Bool} {n : Nat} : ∀ {k a : Nat}, (∀ d c, a ≤ d → d < a + k → c < n → f d c = g d c) → nrmFrom f n a k = nrmFrom g n a k
  | 0, _, _ => rfl
  | k + 1, a, h => by
    rw [nrmFrom, nrmFrom, rowCongr (g := g) fun c _ h2 => h a c (Nat.le_refl _) (by omega) (by omega), nrmFromCongr fun d c h1 h2 h3 => h d c (by omega) (by omega) h3]
/-- Two tables that agree below n have the same pairs. -/
theorem nrmCongr {n : Nat} {f g : Nat → Nat → Bool} (h : ∀ a b, a < n → b < n → f a b = g a b) : nrm n f = nrm n g :=
  nrmFromCongr fun d c _ h2 h3 => h d c (by omega) h3
theorem lenRow (f : Nat → Nat → Bool) (a : Nat) : ∀ k b, (rowP f a b k).length ≤ k
  | 0, _ => Nat.zero_le _
  | k + 1, b => by
    rw [rowP, List.length_append]
    have := lenRow f a k (b + 1)
    split <;> simp <;> omega
theorem lenNrmFrom (f : Nat → Nat → Bool) (n : Nat) : ∀ k a, (nrmFrom f n a k).length ≤ k * n
  | 0, _ => Nat.zero_le _
  | k + 1, a => by
    rw [nrmFrom, List.length_append, Nat.add_mul, Nat.one_mul]
    have := lenRow f a n 0
    have := lenNrmFrom f n k (a + 1)
    omega
theorem lenNrm (n : Nat) (f : Nat → Nat → Bool) : (nrm n f).length ≤ n * n := lenNrmFrom f n n 0

/-! Composition, union, inverse, as tables below n. -/
def cmpT (n : Nat) (f g : Nat → Nat → Bool) (a c : Nat) : Bool := (List.range n).any fun b => f a b && g b c
theorem cmpIff {n : Nat} {f g : Nat → Nat → Bool} {a c : Nat} : cmpT n f g a c = true ↔ ∃ b, b < n ∧ f a b = true ∧ g b c = true := by
  unfold cmpT
  rw [List.any_eq_true]
  constructor
  · rintro ⟨b, h1, h2⟩
    rw [Bool.and_eq_true] at h2
    exact ⟨b, List.mem_range.1 h1, h2⟩
  · rintro ⟨b, h1, h2⟩
    exact ⟨b, List.mem_range.2 h1, by rw [Bool.and_eq_true]; exact h2⟩

/-! The transitive closure: ways through inner elements below m. -/
/-- A way from a over the inner elements L to b. -/
def pth (f : Nat → Nat → Bool) : Nat → List Nat → Nat → Prop
  | a, [], b => f a b = true
  | a, x :: L, b => f a x = true ∧ pth f x L b
/-- There is a way whose inner elements are below m. -/
def Wy (f : Nat → Nat → Bool) (m a b : Nat) : Prop := ∃ L, (∀ x ∈ L, x < m) ∧ pth f a L b
theorem pthApp {f : Nat → Nat → Bool} {c : Nat} : ∀ {L M : List Nat} {a b : Nat}, pth f a (L ++ c :: M) b ↔ pth f a L c ∧ pth f c M b
  | [], M, a, b => Iff.rfl
  | x :: L, M, a, b => by
    show f a x = true ∧ pth f x (L ++ c :: M) b ↔ (f a x = true ∧ pth f x L c) ∧ pth f c M b
    rw [pthApp (L := L), and_assoc]
theorem wyOne {f : Nat → Nat → Bool} {m a b : Nat} (h : f a b = true) : Wy f m a b := ⟨[], by simp, h⟩
theorem wyCons {f : Nat → Nat → Bool} {m a x b : Nat} (hx : x < m) (h : f a x = true) (h' : Wy f m x b) : Wy f m a b := by
  obtain ⟨L, h1, h2⟩ := h'
  exact ⟨x :: L, by simpa using ⟨hx, h1⟩, h, h2⟩
theorem wyJoin {f : Nat → Nat → Bool} {m a c b : Nat} (hc : c < m) (h : Wy f m a c) (h' : Wy f m c b) : Wy f m a b := by
  obtain ⟨L, h1, h2⟩ := h
  obtain ⟨M, k1, k2⟩ := h'
  refine ⟨L ++ c :: M, fun x hx => ?_, pthApp.2 ⟨h2, k2⟩⟩
  rcases List.mem_append.1 hx with h | h
  · exact h1 x h
  · rcases List.mem_cons.1 h with rfl | h
    · exact hc
    · exact k1 x h
theorem wyMono {f : Nat → Nat → Bool} {m m' a b : Nat} (hm : m ≤ m') (h : Wy f m a b) : Wy f m' a b := by
  obtain ⟨L, h1, h2⟩ := h
  exact ⟨L, fun x hx => Nat.lt_of_lt_of_le (h1 x hx) hm, h2⟩
/-- One inner element more: Warshall's step. -/
theorem wySucc {f : Nat → Nat → Bool} {m a b : Nat} : Wy f (m + 1) a b ↔ Wy f m a b ∨ (Wy f m a m ∧ Wy f m m b) := by
  constructor
  · rintro ⟨L, h1, h2⟩
    induction L generalizing a with
    | nil => exact Or.inl (wyOne h2)
    | cons x L ih =>
      obtain ⟨g1, g2⟩ := h2
      have hx := h1 x (by simp)
      have ih' := ih (fun y hy => h1 y (by simp [hy])) g2
      by_cases e : x = m
      · subst e
        refine Or.inr ⟨wyOne g1, ?_⟩
        rcases ih' with h | ⟨_, h⟩ <;> exact h
      · rcases ih' with h | ⟨h, h'⟩
        · exact Or.inl (wyCons (by omega) g1 h)
        · exact Or.inr ⟨wyCons (by omega) g1 h, h'⟩
  · rintro (h | ⟨h, h'⟩)
    · exact wyMono (by omega) h
    · exact wyJoin (by omega) (wyMono (by omega) h) (wyMono (by omega) h')
theorem wyZero {f : Nat → Nat → Bool} {a b : Nat} : Wy f 0 a b ↔ f a b = true := by
  constructor
  · rintro ⟨L, h1, h2⟩
    cases L with
    | nil => exact h2
    | cons x L => exact absurd (h1 x (by simp)) (by omega)
  · exact wyOne
section
open Classical
/-- The transitive closure below n. -/
noncomputable def tcT (n : Nat) (f : Nat → Nat → Bool) (a b : Nat) : Bool := decide (Wy f n a b)
theorem tcIff {n : Nat} {f : Nat → Nat → Bool} {a b : Nat} : tcT n f a b = true ↔ Wy f n a b := by unfold tcT; exact decide_eq_true_iff
/-- What Warshall's table holds behind m inner elements. -/
noncomputable def wsT (f : Nat → Nat → Bool) (m a b : Nat) : Bool := decide (Wy f m a b)
theorem wsIff {m : Nat} {f : Nat → Nat → Bool} {a b : Nat} : wsT f m a b = true ↔ Wy f m a b := by unfold wsT; exact decide_eq_true_iff
theorem wsZero {f : Nat → Nat → Bool} {a b : Nat} : wsT f 0 a b = f a b := by rw [Bool.eq_iff_iff, wsIff, wyZero]
theorem wsSucc {f : Nat → Nat → Bool} {m a b : Nat} : wsT f (m + 1) a b = (wsT f m a b || (wsT f m a m && wsT f m m b)) := by
  rw [Bool.eq_iff_iff, Bool.or_eq_true, Bool.and_eq_true, wsIff, wsIff, wsIff, wsIff, wySucc]
theorem wsEnd {n : Nat} {f : Nat → Nat → Bool} {a b : Nat} : wsT f n a b = tcT n f a b := rfl
/-- Row m does not change in round m. -/
theorem wsRow {f : Nat → Nat → Bool} {m b : Nat} : wsT f (m + 1) m b = wsT f m m b := by
  rw [wsSucc]; cases wsT f m m b <;> simp
theorem wsCol {f : Nat → Nat → Bool} {m a : Nat} : wsT f (m + 1) a m = wsT f m a m := by
  rw [wsSucc]; cases wsT f m a m <;> simp
end
/-! What the closure is. -/
theorem tcOne {n : Nat} {f : Nat → Nat → Bool} {a b : Nat} (h : f a b = true) : tcT n f a b = true := tcIff.2 (wyOne h)
theorem tcTrans {n : Nat} {f : Nat → Nat → Bool} {a b c : Nat} (hb : b < n) (h : tcT n f a b = true) (h' : tcT n f b c = true) : tcT n f a c = true := tcIff.2 (wyJoin hb (tcIff.1 h) (tcIff.1 h'))
/-- The closure is in every transitive relation that holds f. -/
theorem tcLeast {n : Nat} {f g : Nat → Nat → Bool} (hf : ∀ a b, a < n → b < n → f a b = true → g a b = true) (hg : ∀ a b c, a < n → b < n → c < n → g a b = true → g b c = true → g a c = true) {a b : Nat} (ha : a < n) (hb : b < n) (h : tcT n f a b = true) : g a b = true := by
  obtain ⟨L, h1, h2⟩ := tcIff.1 h
  clear h
  induction L generalizing a with
  | nil => exact hf a b ha hb h2
  | cons x L ih =>
    have hx := h1 x (by simp)
    exact hg a x b ha hx hb (hf a x ha hx h2.1) (ih hx (fun y hy => h1 y (by simp [hy])) h2.2)
/-- A way is one pair, or a pair and a way. -/
theorem tcStep {n : Nat} {f : Nat → Nat → Bool} {a b : Nat} : tcT n f a b = (f a b || cmpT n f (tcT n f) a b) := by
  rw [Bool.eq_iff_iff, Bool.or_eq_true, cmpIff, tcIff]
  constructor
  · rintro ⟨L, h1, h2⟩
    cases L with
    | nil => exact Or.inl h2
    | cons x L => exact Or.inr ⟨x, h1 x (by simp), h2.1, tcIff.2 ⟨L, fun y hy => h1 y (by simp [hy]), h2.2⟩⟩
  · rintro (h | ⟨x, hx, h, h'⟩)
    · exact wyOne h
    · exact wyCons hx h (tcIff.1 h')
theorem tcSelf {n : Nat} {f : Nat → Nat → Bool} {a b : Nat} (ha : a < n) (hb : b < n) : tcT n (tcT n f) a b = tcT n f a b := by
  rw [Bool.eq_iff_iff]
  exact ⟨tcLeast (g := tcT n f) (fun _ _ _ _ h => h) (fun _ _ _ _ hb _ h h' => tcTrans hb h h') ha hb, tcOne⟩
theorem tcMono {n : Nat} {f g : Nat → Nat → Bool} (hf : ∀ a b, a < n → b < n → f a b = true → g a b = true) {a b : Nat} (ha : a < n) (hb : b < n) (h : tcT n f a b = true) : tcT n g a b = true :=
  tcLeast (fun a b ha hb h => tcOne (hf a b ha hb h)) (fun _ _ _ _ hb _ h h' => tcTrans hb h h') ha hb h
theorem tcCongr {n : Nat} {f g : Nat → Nat → Bool} (hf : ∀ a b, a < n → b < n → f a b = g a b) {a b : Nat} (ha : a < n) (hb : b < n) : tcT n f a b = tcT n g a b := by
  rw [Bool.eq_iff_iff]
  exact ⟨tcMono (fun a b ha hb h => by rw [← hf a b ha hb]; exact h) ha hb, tcMono (fun a b ha hb h => by rw [hf a b ha hb]; exact h) ha hb⟩
theorem pthInv {f : Nat → Nat → Bool} : ∀ {L : List Nat} {a b : Nat}, pth f a L b → pth (fun x y => f y x) b L.reverse a
  | [], a, b, h => h
  | x :: L, a, b, h => by
    rw [List.reverse_cons]
    exact pthApp.2 ⟨pthInv h.2, h.1⟩
theorem tcInv {n : Nat} {f : Nat → Nat → Bool} {a b : Nat} : tcT n (fun x y => f y x) a b = tcT n f b a := by
  rw [Bool.eq_iff_iff, tcIff, tcIff]
  constructor
  · rintro ⟨L, h1, h2⟩
    exact ⟨L.reverse, fun x hx => h1 x (List.mem_reverse.1 hx), pthInv h2⟩
  · rintro ⟨L, h1, h2⟩
    exact ⟨L.reverse, fun x hx => h1 x (List.mem_reverse.1 hx), pthInv h2⟩

/-! Acyclic relations and their reductions. -/
def acyT (n : Nat) (f : Nat → Nat → Bool) : Prop := ∀ a, a < n → f a a = false
/-- The pairs of the closure that are no two of it. -/
def redT (n : Nat) (t : Nat → Nat → Bool) (a b : Nat) : Bool := t a b && !cmpT n t t a b
theorem countLt {p q : Nat → Bool} : ∀ {l : List Nat}, (∀ x ∈ l, p x = true → q x = true) → (∃ x ∈ l, q x = true ∧ p x = false) → l.countP p < l.countP q
  | [], _, h => by obtain ⟨x, hx, _⟩ := h; cases hx
  | y :: l, h, hx => by
    have hl : ∀ x ∈ l, p x = true → q x = true := fun x hm => h x (List.mem_cons_of_mem _ hm)
    have hle : l.countP p ≤ l.countP q := List.countP_mono_left hl
    rw [List.countP_cons, List.countP_cons]
    obtain ⟨x, hm, hq, hp⟩ := hx
    rcases List.mem_cons.1 hm with rfl | hm
    · rw [if_pos hq, if_neg (by rw [hp]; simp)]; omega
    · have := countLt hl ⟨x, hm, hq, hp⟩
      have hy := h y (by simp)
      by_cases hpy : p y = true
      · rw [if_pos hpy, if_pos (hy hpy)]; omega
      · rw [if_neg hpy]; omega
/-- Between an acyclic closure's pair lies a way of the reduction. -/
theorem redWay {n : Nat} {f : Nat → Nat → Bool} (hac : acyT n (tcT n f)) : ∀ (k a b : Nat), a < n → b < n → (List.range n).countP (fun x => tcT n f a x && tcT n f x b) ≤ k → tcT n f a b = true → tcT n (redT n (tcT n f)) a b = true := by
  intro k
  induction k using Nat.strongRecOn with
  | _ k ih =>
    intro a b ha hb hk h
    by_cases hc : cmpT n (tcT n f) (tcT n f) a b = true
    · obtain ⟨x, hx, h1, h2⟩ := cmpIff.1 hc
      have hxx := hac x hx
      have c1 : (List.range n).countP (fun y => tcT n f a y && tcT n f y x) < (List.range n).countP (fun y => tcT n f a y && tcT n f y b) := by
        refine countLt (fun y hy hp => ?_) ⟨x, List.mem_range.2 hx, by rw [h1, h2]; rfl, by rw [hxx, Bool.and_false]⟩
        rw [Bool.and_eq_true] at hp ⊢
        exact ⟨hp.1, tcTrans hx hp.2 h2⟩
      have c2 : (List.range n).countP (fun y => tcT n f x y && tcT n f y b) < (List.range n).countP (fun y => tcT n f a y && tcT n f y b) := by
        refine countLt (fun y hy hp => ?_) ⟨x, List.mem_range.2 hx, by rw [h1, h2]; rfl, by rw [hxx, Bool.false_and]⟩
        rw [Bool.and_eq_true] at hp ⊢
        exact ⟨tcTrans hx h1 hp.1, hp.2⟩
      exact tcTrans hx (ih _ (Nat.lt_of_lt_of_le c1 hk) a x ha hx (Nat.le_refl _) h1) (ih _ (Nat.lt_of_lt_of_le c2 hk) x b hx hb (Nat.le_refl _) h2)
    · refine tcOne ?_
      unfold redT
      rw [h, Bool.eq_false_iff.2 hc]; rfl
theorem redClosure {n : Nat} {f : Nat → Nat → Bool} (hac : acyT n (tcT n f)) {a b : Nat} (ha : a < n) (hb : b < n) : tcT n (redT n (tcT n f)) a b = tcT n f a b := by
  rw [Bool.eq_iff_iff]
  refine ⟨tcLeast (g := tcT n f) (fun a b _ _ h => ?_) (fun _ _ _ _ hb _ h h' => tcTrans hb h h') ha hb, redWay hac _ a b ha hb (Nat.le_refl _)⟩
  unfold redT at h
  rw [Bool.and_eq_true] at h
  exact h.1
/-- A pair of the reduction is not two pairs of the closure. -/
theorem redNot {n : Nat} {t : Nat → Nat → Bool} {a b : Nat} (h : redT n t a b = true) : cmpT n t t a b = false := by
  unfold redT at h
  rw [Bool.and_eq_true, Bool.not_eq_true'] at h
  exact h.2
theorem cmpInv {n : Nat} {f g : Nat → Nat → Bool} {a c : Nat} : cmpT n (fun x y => g y x) (fun x y => f y x) a c = cmpT n f g c a := by
  rw [Bool.eq_iff_iff, cmpIff, cmpIff]
  exact ⟨fun ⟨b, h1, h2, h3⟩ => ⟨b, h1, h3, h2⟩, fun ⟨b, h1, h2, h3⟩ => ⟨b, h1, h3, h2⟩⟩

/-! Cycles: a first element and a way from it back to it. -/
/-- x :: L is a cycle below n. -/
def Cyc (n : Nat) (f : Nat → Nat → Bool) (x : Nat) (L : List Nat) : Prop := x < n ∧ (∀ y ∈ L, y < n) ∧ pth f x L x
theorem cycIff {n : Nat} {f : Nat → Nat → Bool} {x : Nat} (hx : x < n) : (∃ L, Cyc n f x L) ↔ tcT n f x x = true := by
  rw [tcIff]
  exact ⟨fun ⟨L, _, h1, h2⟩ => ⟨L, h1, h2⟩, fun ⟨L, h1, h2⟩ => ⟨L, hx, h1, h2⟩⟩
/-- The fewest elements, and of such the first in order. -/
def Best (n : Nat) (f : Nat → Nat → Bool) (x : Nat) (L : List Nat) : Prop :=
  Cyc n f x L ∧ ∀ y M, Cyc n f y M → L.length ≤ M.length ∧ (M.length = L.length → x :: L ≤ y :: M)
theorem bestOne {n : Nat} {f : Nat → Nat → Bool} {x y : Nat} {L M : List Nat} (h : Best n f x L) (k : Best n f y M) : x = y ∧ L = M := by
  obtain ⟨h1, h2⟩ := h
  obtain ⟨k1, k2⟩ := k
  obtain ⟨a1, a2⟩ := h2 y M k1
  obtain ⟨b1, b2⟩ := k2 x L h1
  have e := List.le_antisymm (a2 (by omega)) (b2 (by omega))
  injection e with e1 e2
  exact ⟨e1, e2⟩
end Go.Proofs.Ytpfdhjmhoggioaa
