/-
  Plain facts about finite relations: as tables, as lists of pairs in order, closed under composition. Without any program.
-/
namespace Go.Proofs.YtjioiaeiggjneaaDoor

/-- Pairs of numbers. -/
abbrev Prs := List (Int × Int)
/-- A relation is valid: n up to 64, both elements of each pair below n. -/
def okR (n : Int) (l : Prs) : Bool := decide (0 ≤ n ∧ n ≤ 64 ∧ ∀ p ∈ l, 0 ≤ p.1 ∧ p.1 < n ∧ 0 ≤ p.2 ∧ p.2 < n)
/-- Which pairs a list contains. -/
def hasP (l : Prs) (a b : Nat) : Bool := decide (((a : Int), (b : Int)) ∈ l)
/-- The pairs of one row of a table, from column b on, k columns. -/
def rowP (f : Nat → Nat → Bool) (a : Nat) : Nat → Nat → Prs
  | _, 0 => []
  | b, k + 1 => (if f a b then [((a : Int), (b : Int))] else []) ++ rowP f a (b + 1) k
/-- The pairs of a table, from row a on, k rows, n columns. -/
def nrmFrom (f : Nat → Nat → Bool) (n : Nat) : Nat → Nat → Prs
  | _, 0 => []
  | a, k + 1 => rowP f a 0 n ++ nrmFrom f n (a + 1) k
/-- The pairs of a table below n, in order. -/
def nrm (n : Nat) (f : Nat → Nat → Bool) : Prs := nrmFrom f n 0 n
theorem rowMem (f : Nat → Nat → Bool) (a : Nat) (x y : Int) : ∀ k b, (x, y) ∈ rowP f a b k ↔ x = (a : Int) ∧ ∃ c : Nat, y = (c : Int) ∧ b ≤ c ∧ c < b + k ∧ f a c = true
  | 0, b => by simp only [rowP, List.not_mem_nil, false_iff]; rintro ⟨_, c, _, h1, h2, _⟩; omega
  | k + 1, b => by
    rw [rowP, List.mem_append, rowMem f a x y k (b + 1)]
    constructor
    · rintro (h | ⟨h1, c, h2, h3, h4, h5⟩)
      · split at h
        · rename_i hf
          simp only [List.mem_singleton, Prod.mk.injEq] at h
          exact ⟨h.1, b, h.2, Nat.le_refl _, by omega, hf⟩
        · cases h
      · exact ⟨h1, c, h2, by omega, by omega, h5⟩
    · rintro ⟨h1, c, h2, h3, h4, h5⟩
      by_cases e : c = b
      · subst e
        exact Or.inl (by rw [if_pos h5]; simp [h1, h2])
      · exact Or.inr ⟨h1, c, h2, by omega, by omega, h5⟩
theorem nrmFromMem (f : Nat → Nat → Bool) (n : Nat) (x y : Int) : ∀ k a, (x, y) ∈ nrmFrom f n a k ↔ ∃ d c : Nat, x = (d : Int) ∧ y = (c : Int) ∧ a ≤ d ∧ d < a + k ∧ c < n ∧ f d c = true
  | 0, a => by simp only [nrmFrom, List.not_mem_nil, false_iff]; rintro ⟨d, c, _, _, h1, h2, _⟩; omega
  | k + 1, a => by
    rw [nrmFrom, List.mem_append, rowMem, nrmFromMem f n x y k (a + 1)]
    constructor
    · rintro (⟨h1, c, h2, _, h4, h5⟩ | ⟨d, c, h1, h2, h3, h4, h5⟩)
      · exact ⟨a, c, h1, h2, Nat.le_refl _, by omega, by omega, h5⟩
      · exact ⟨d, c, h1, h2, by omega, by omega, h5⟩
    · rintro ⟨d, c, h1, h2, h3, h4, h5, h6⟩
      by_cases e : d = a
      · subst e
        exact Or.inl ⟨h1, c, h2, Nat.zero_le _, by omega, h6⟩
      · exact Or.inr ⟨d, c, h1, h2, by omega, by omega, h5, h6⟩
theorem nrmMem {n : Nat} {f : Nat → Nat → Bool} {x y : Int} : (x, y) ∈ nrm n f ↔ ∃ d c : Nat, x = (d : Int) ∧ y = (c : Int) ∧ d < n ∧ c < n ∧ f d c = true := by
  unfold nrm
  rw [nrmFromMem]
  constructor
  · rintro ⟨d, c, h1, h2, _, h4, h5, h6⟩; exact ⟨d, c, h1, h2, by omega, h5, h6⟩
  · rintro ⟨d, c, h1, h2, h4, h5, h6⟩; exact ⟨d, c, h1, h2, Nat.zero_le _, by omega, h5, h6⟩
theorem hasNrm {n : Nat} {f : Nat → Nat → Bool} {a b : Nat} (ha : a < n) (hb : b < n) : hasP (nrm n f) a b = f a b := by
  unfold hasP
  rw [Bool.eq_iff_iff, decide_eq_true_iff, nrmMem]
  constructor
  · rintro ⟨d, c, h1, h2, _, _, h⟩
    obtain rfl : a = d := by omega
    obtain rfl : b = c := by omega
    exact h
  · intro h; exact ⟨a, b, rfl, rfl, ha, hb, h⟩
theorem rowCongr {f g : Nat → Nat → Bool} {a : Nat} : ∀ {k b : Nat}, (∀ c, b ≤ c → c < b + k → f a c = g a c) → rowP f a b k = rowP g a b k
  | 0, _, _ => rfl
  | k + 1, b, h => by rw [rowP, rowP, h b (Nat.le_refl _) (by omega), rowCongr fun c h1 h2 => h c (by omega) (by omega)]
theorem nrmFromCongr {f g : Nat → Nat → Bool} {n : Nat} : ∀ {k a : Nat}, (∀ d c, a ≤ d → d < a + k → c < n → f d c = g d c) → nrmFrom f n a k = nrmFrom g n a k
  | 0, _, _ => rfl
  | k + 1, a, h => by
    rw [nrmFrom, nrmFrom, rowCongr (g := g) fun c _ h2 => h a c (Nat.le_refl _) (by omega) (by omega), nrmFromCongr fun d c h1 h2 h3 => h d c (by omega) (by omega) h3]
/-- Two tables that agree below n have the same pairs. -/
theorem nrmCongr {n : Nat} {f g : Nat → Nat → Bool} (h : ∀ a b, a < n → b < n → f a b = g a b) : nrm n f = nrm n g :=
  nrmFromCongr fun d c _ h2 h3 => h d c (by omega) h3
theorem lenRow (f : Nat → Nat → Bool) (a : Nat) : ∀ k b, (rowP f a b k).length ≤ k
  | 0, _ => Nat.zero_le _
  | k + 1, b => by
    rw [rowP, List.length_append]
    have := lenRow f a k (b + 1)
    split <;> simp <;> omega
theorem lenNrmFrom (f : Nat → Nat → Bool) (n : Nat) : ∀ k a, (nrmFrom f n a k).length ≤ k * n
  | 0, _ => Nat.zero_le _
  | k + 1, a => by
    rw [nrmFrom, List.length_append, Nat.add_mul, Nat.one_mul]
    have := lenRow f a n 0
    have := lenNrmFrom f n k (a + 1)
    omega
theorem lenNrm (n : Nat) (f : Nat → Nat → Bool) : (nrm n f).length ≤ n * n := lenNrmFrom f n n 0

/-! Composition, union, inverse, as tables below n. -/
def cmpT (n : Nat) (f g : Nat → Nat → Bool) (a c : Nat) : Bool := (List.range n).any fun b => f a b && g b c
theorem cmpIff {n : Nat} {f g : Nat → Nat → Bool} {a c : Nat} : cmpT n f g a c = true ↔ ∃ b, b < n ∧ f a b = true ∧ g b c = true := by
  unfold cmpT
  rw [List.any_eq_true]
  constructor
  · rintro ⟨b, h1, h2⟩
    rw [Bool.and_eq_true] at h2
    exact ⟨b, List.mem_range.1 h1, h2⟩
  · rintro ⟨b, h1, h2⟩
    exact ⟨b, List.mem_range.2 h1, by rw [Bool.and_eq_true]; exact h2⟩

/-! The transitive closure: ways through inner elements below m. -/
/-- A way from a over the inner elements L to b. -/
def pth (f : Nat → Nat → Bool) : Nat → List Nat → Nat → Prop
  | a, [], b => f a b = true
  | a, x :: L, b => f a x = true ∧ pth f x L b
/-- There is a way whose inner elements are below m. -/
def Wy (f : Nat → Nat → Bool) (m a b : Nat) : Prop := ∃ L, (∀ x ∈ L, x < m) ∧ pth f a L b
theorem pthApp {f : Nat → Nat → Bool} {c : Nat} : ∀ {L M : List Nat} {a b : Nat}, pth f a (L ++ c :: M) b ↔ pth f a L c ∧ pth f c M b
  | [], M, a, b => Iff.rfl
  | x :: L, M, a, b => by
    show f a x = true ∧ pth f x (L ++ c :: M) b ↔ (f a x = true ∧ pth f x L c) ∧ pth f c M b
    rw [pthApp (L := L), and_assoc]
theorem wyOne {f : Nat → Nat → Bool} {m a b : Nat} (h : f a b = true) : Wy f m a b := ⟨[], by simp, h⟩
theorem wyCons {f : Nat → Nat → Bool} {m a x b : Nat} (hx : x < m) (h : f a x = true) (h' : Wy f m x b) : Wy f m a b := by
  obtain ⟨L, h1, h2⟩ := h'
  exact ⟨x :: L, by simpa using ⟨hx, h1⟩, h, h2⟩
theorem wyJoin {f : Nat → Nat → Bool} {m a c b : Nat} (hc : c < m) (h : Wy f m a c) (h' : Wy f m c b) : Wy f m a b := by
  obtain ⟨L, h1, h2⟩ := h
  obtain ⟨M, k1, k2⟩ := h'
  refine ⟨L ++ c :: M, fun x hx => ?_, pthApp.2 ⟨h2, k2⟩⟩
  rcases List.mem_append.1 hx with h | h
  · exact h1 x h
  · rcases List.mem_cons.1 h with rfl | h
    · exact hc
    · exact k1 x h
theorem wyMono {f : Nat → Nat → Bool} {m m' a b : Nat} (hm : m ≤ m') (h : Wy f m a b) : Wy f m' a b := by
  obtain ⟨L, h1, h2⟩ := h
  exact ⟨L, fun x hx => Nat.lt_of_lt_of_le (h1 x hx) hm, h2⟩
/-- One inner element more: Warshall's step. -/
theorem wySucc {f : Nat → Nat → Bool} {m a b : Nat} : Wy f (m + 1) a b ↔ Wy f m a b ∨ (Wy f m a m ∧ Wy f m m b) := by
  constructor
  · rintro ⟨L, h1, h2⟩
    induction L generalizing a with
    | nil => exact Or.inl (wyOne h2)
    | cons x L ih =>
      obtain ⟨g1, g2⟩ := h2
      have hx := h1 x (by simp)
      have ih' := ih (fun y hy => h1 y (by simp [hy])) g2
      by_cases e : x = m
      · subst e
        refine Or.inr ⟨wyOne g1, ?_⟩
        rcases ih' with h | ⟨_, h⟩ <;> exact h
      · rcases ih' with h | ⟨h, h'⟩
        · exact Or.inl (wyCons (by omega) g1 h)
        · exact Or.inr ⟨wyCons (by omega) g1 h, h'⟩
  · rintro (h | ⟨h, h'⟩)
    · exact wyMono (by omega) h
    · exact wyJoin (by omega) (wyMono (by omega) h) (wyMono (by omega) h')
theorem wyZero {f : Nat → Nat → Bool} {a b : Nat} : Wy f 0 a b ↔ f a b = true := by
  constructor
  · rintro ⟨L, h1, h2⟩
    cases L with
    | nil => exact h2
    | cons x L => exact absurd (h1 x (by simp)) (by omega)
  · exact wyOne
section
open Classical
/-- The transitive closure below n. -/
noncomputable def tcT (n : Nat) (f : Nat → Nat → Bool) (a b : Nat) : Bool := decide (Wy f n a b)
theorem tcIff {n : Nat} {f : Nat → Nat → Bool} {a b : Nat} : tcT n f a b = true ↔ Wy f n a b := by unfold tcT; exact decide_eq_true_iff
/-- What Warshall's table holds behind m inner elements. -/
noncomputable def wsT (f : Nat → Nat → Bool) (m a b : Nat) : Bool := decide (Wy f m a b)
theorem wsIff {m : Nat} {f : Nat → Nat → Bool} {a b : Nat} : wsT f m a b = true ↔ Wy f m a b := by unfold wsT; exact decide_eq_true_iff
theorem wsZero {f : Nat → Nat → Bool} {a b : Nat} : wsT f 0 a b = f a b := by rw [Bool.eq_iff_iff, wsIff, wyZero]
theorem wsSucc {f : Nat → Nat → Bool} {m a b : Nat} : wsT f (m + 1) a b = (wsT f m a b || (wsT f m a m && wsT f m m b)) := by
  rw [Bool.eq_iff_iff, Bool.or_eq_true, Bool.and_eq_true, wsIff, wsIff, wsIff, wsIff, wySucc]
theorem wsEnd {n : Nat} {f : Nat → Nat → Bool} {a b : Nat} : wsT f n a b = tcT n f a b := rfl
/-- Row m does not change in round m. -/
theorem wsRow {f : Nat → Nat → Bool} {m b : Nat} : wsT f (m + 1) m b = wsT f m m b := by
  rw [wsSucc]; cases wsT f m m b <;> simp
theorem wsCol {f : Nat → Nat → Bool} {m a : Nat} : wsT f (m + 1) a m = wsT f m a m := by
  rw [wsSucc]; cases wsT f m a m <;> simp
end
/-! What the closure is. -/
theorem tcOne {n : Nat} {f : Nat → Nat → Bool} {a b : Nat} (h : f a b = true) : tcT n f a b = true := tcIff.2 (wyOne h)
theorem tcTrans {n : Nat} {f : Nat → Nat → Bool} {a b c : Nat} (hb : b < n) (h : tcT n f a b = true) (h' : tcT n f b c = true) : tcT n f a c = true := tcIff.2 (wyJoin hb (tcIff.1 h) (tcIff.1 h'))
/-- The closure is in every transitive relation that holds f. -/
theorem tcLeast {n : Nat} {f g : Nat → Nat → Bool} (hf : ∀ a b, a < n → b < n → f a b = true → g a b = true) (hg : ∀ a b c, a < n → b < n → c < n → g a b = true → g b c = true → g a c = true) {a b : Nat} (ha : a < n) (hb : b < n) (h : tcT n f a b = true) : g a b = true := by
  obtain ⟨L, h1, h2⟩ := tcIff.1 h
  clear h
  induction L generalizing a with
  | nil => exact hf a b ha hb h2
  | cons x L ih =>
    have hx := h1 x (by simp)
    exact hg a x b ha hx hb (hf a x ha hx h2.1) (ih hx (fun y hy => h1 y (by simp [hy])) h2.2)
/-- A way is one pair, or a pair and a way. -/
theorem tcStep {n : Nat} {f : Nat → Nat → Bool} {a b : Nat} : tcT n f a b = (f a b || cmpT n f (tcT n f) a b) := by
  rw [Bool.eq_iff_iff, Bool.or_eq_true, cmpIff, tcIff]
  constructor
  · rintro ⟨L, h1, h2⟩
    cases L with
    | nil => exact Or.inl h2
    | cons x L => exact Or.inr ⟨x, h1 x (by simp), h2.1, tcIff.2 ⟨L, fun y hy => h1 y (by simp [hy]), h2.2⟩⟩
  · rintro (h | ⟨x, hx, h, h'⟩)
    · exact wyOne h
    · exact wyCons hx h (tcIff.1 h')
theorem tcSelf {n : Nat} {f : Nat → Nat → Bool} {a b : Nat} (ha : a < n) (hb : b < n) : tcT n (tcT n f) a b = tcT n f a b := by
  rw [Bool.eq_iff_iff]
  exact ⟨tcLeast (g := tcT n f) (fun _ _ _ _ h => h) (fun _ _ _ _ hb _ h h' => tcTrans hb h h') ha hb, tcOne⟩
theorem tcMono {n : Nat} {f g : Nat → Nat → Bool} (hf : ∀ a b, a < n → b < n → f a b = true → g a b = true) {a b : Nat} (ha : a < n) (hb : b < n) (h : tcT n f a b = true) : tcT n g a b = true :=
  tcLeast (fun a b ha hb h => tcOne (hf a b ha hb h)) (fun _ _ _ _ hb _ h h' => tcTrans hb h h') ha hb h
theorem tcCongr {n : Nat} {f g : Nat → Nat → Bool} (hf : ∀ a b, a < n → b < n → f a b = g a b) {a b : Nat} (ha : a < n) (hb : b < n) : tcT n f a b = tcT n g a b := by
  rw [Bool.eq_iff_iff]
  exact ⟨tcMono (fun a b ha hb h => by rw [← hf a b ha hb]; exact h) ha hb, tcMono (fun a b ha hb h => by rw [hf a b ha hb]; exact h) ha hb⟩
theorem pthInv {f : Nat → Nat → Bool} : ∀ {L : List Nat} {a b : Nat}, pth f a L b → pth (fun x y => f y x) b L.reverse a
  | [], a, b, h => h
  | x :: L, a, b, h => by
    rw [List.reverse_cons]
    exact pthApp.2 ⟨pthInv h.2, h.1⟩
theorem tcInv {n : Nat} {f : Nat → Nat → Bool} {a b : Nat} : tcT n (fun x y => f y x) a b = tcT n f b a := by
  rw [Bool.eq_iff_iff, tcIff, tcIff]
  constructor
  · rintro ⟨L, h1, h2⟩
    exact ⟨L.reverse, fun x hx => h1 x (List.mem_reverse.1 hx), pthInv h2⟩
  · rintro ⟨L, h1, h2⟩
    exact ⟨L.reverse, fun x hx => h1 x (List.mem_reverse.1 hx), pthInv h2⟩

/-! Acyclic relations and their reductions. -/
def acyT (n : Nat) (f : Nat → Nat → Bool) : Prop := ∀ a, a < n → f a a = false
/-- The pairs of the closure that are no two of it. -/
def redT (n : Nat) (t : Nat → Nat → Bool) (a b : Nat) : Bool := t a b && !cmpT n t t a b
theorem countLt {p q : Nat → Bool} : ∀ {l : List Nat}, (∀ x ∈ l, p x = true → q x = true) → (∃ x ∈ l, q x = true ∧ p x = false) → l.countP p < l.countP q
  | [], _, h => by obtain ⟨x, hx, _⟩ := h; cases hx
  | y :: l, h, hx => by
    have hl : ∀ x ∈ l, p x = true → q x = true := fun x hm => h x (List.mem_cons_of_mem _ hm)
    have hle : l.countP p ≤ l.countP q := List.countP_mono_left hl
    rw [List.countP_cons, List.countP_cons]
    obtain ⟨x, hm, hq, hp⟩ := hx
    rcases List.mem_cons.1 hm with rfl | hm
    · rw [if_pos hq, if_neg (by rw [hp]; simp)]; omega
    · have := countLt hl ⟨x, hm, hq, hp⟩
      have hy := h y (by simp)
      by_cases hpy : p y = true
      · rw [if_pos hpy, if_pos (hy hpy)]; omega
      · rw [if_neg hpy]; omega
/-- Between an acyclic closure's pair lies a way of the reduction. -/
theorem redWay {n : Nat} {f : Nat → Nat → Bool} (hac : acyT n (tcT n f)) : ∀ (k a b : Nat), a < n → b < n → (List.range n).countP (fun x => tcT n f a x && tcT n f x b) ≤ k → tcT n f a b = true → tcT n (redT n (tcT n f)) a b = true := by
  intro k
  induction k using Nat.strongRecOn with
  | _ k ih =>
    intro a b ha hb hk h
    by_cases hc : cmpT n (tcT n f) (tcT n f) a b = true
    · obtain ⟨x, hx, h1, h2⟩ := cmpIff.1 hc
      have hxx := hac x hx
      have c1 : (List.range n).countP (fun y => tcT n f a y && tcT n f y x) < (List.range n).countP (fun y => tcT n f a y && tcT n f y b) := by
        refine countLt (fun y hy hp => ?_) ⟨x, List.mem_range.2 hx, by rw [h1, h2]; rfl, by rw [hxx, Bool.and_false]⟩
        rw [Bool.and_eq_true] at hp ⊢
        exact ⟨hp.1, tcTrans hx hp.2 h2⟩
      have c2 : (List.range n).countP (fun y => tcT n f x y && tcT n f y b) < (List.range n).countP (fun y => tcT n f a y && tcT n f y b) := by
        refine countLt (fun y hy hp => ?_) ⟨x, List.mem_range.2 hx, by rw [h1, h2]; rfl, by rw [hxx, Bool.false_and]⟩
        rw [Bool.and_eq_true] at hp ⊢
        exact ⟨tcTrans hx h1 hp.1, hp.2⟩
      exact tcTrans hx (ih _ (Nat.lt_of_lt_of_le c1 hk) a x ha hx (Nat.le_refl _) h1) (ih _ (Nat.lt_of_lt_of_le c2 hk) x b hx hb (Nat.le_refl _) h2)
    · refine tcOne ?_
      unfold redT
      rw [h, Bool.eq_false_iff.2 hc]; rfl
theorem redClosure {n : Nat} {f : Nat → Nat → Bool} (hac : acyT n (tcT n f)) {a b : Nat} (ha : a < n) (hb : b < n) : tcT n (redT n (tcT n f)) a b = tcT n f a b := by
  rw [Bool.eq_iff_iff]
  refine ⟨tcLeast (g := tcT n f) (fun a b _ _ h => ?_) (fun _ _ _ _ hb _ h h' => tcTrans hb h h') ha hb, redWay hac _ a b ha hb (Nat.le_refl _)⟩
  unfold redT at h
  rw [Bool.and_eq_true] at h
  exact h.1
/-- A pair of the reduction is not two pairs of the closure. -/
theorem redNot {n : Nat} {t : Nat → Nat → Bool} {a b : Nat} (h : redT n t a b = true) : cmpT n t t a b = false := by
  unfold redT at h
  rw [Bool.and_eq_true, Bool.not_eq_true'] at h
  exact h.2
theorem cmpInv {n : Nat} {f g : Nat → Nat → Bool} {a c : Nat} : cmpT n (fun x y => g y x) (fun x y => f y x) a c = cmpT n f g c a := by
  rw [Bool.eq_iff_iff, cmpIff, cmpIff]
  exact ⟨fun ⟨b, h1, h2, h3⟩ => ⟨b, h1, h3, h2⟩, fun ⟨b, h1, h2, h3⟩ => ⟨b, h1, h3, h2⟩⟩

/-! Cycles: a first element and a way from it back to it. -/
/-- x :: L is a cycle below n. -/
def Cyc (n : Nat) (f : Nat → Nat → Bool) (x : Nat) (L : List Nat) : Prop := x < n ∧ (∀ y ∈ L, y < n) ∧ pth f x L x
theorem cycIff {n : Nat} {f : Nat → Nat → Bool} {x : Nat} (hx : x < n) : (∃ L, Cyc n f x L) ↔ tcT n f x x = true := by
  rw [tcIff]
  exact ⟨fun ⟨L, _, h1, h2⟩ => ⟨L, h1, h2⟩, fun ⟨L, h1, h2⟩ => ⟨L, hx, h1, h2⟩⟩
/-- The fewest elements, and of such the first in order. -/
def Best (n : Nat) (f : Nat → Nat → Bool) (x : Nat) (L : List Nat) : Prop :=
  Cyc n f x L ∧ ∀ y M, Cyc n f y M → L.length ≤ M.length ∧ (M.length = L.length → x :: L ≤ y :: M)
theorem bestOne {n : Nat} {f : Nat → Nat → Bool} {x y : Nat} {L M : List Nat} (h : Best n f x L) (k : Best n f y M) : x = y ∧ L = M := by
  obtain ⟨h1, h2⟩ := h
  obtain ⟨k1, k2⟩ := k
  obtain ⟨a1, a2⟩ := h2 y M k1
  obtain ⟨b1, b2⟩ := k2 x L h1
  have e := List.le_antisymm (a2 (by omega)) (b2 (by omega))
  injection e with e1 e2
  exact ⟨e1, e2⟩
end Go.Proofs.YtjioiaeiggjneaaDoor

namespace Go.Proofs.YtjioiaeiggjneaaDoor

/-- There is a way of k + 1 pairs from a to b. -/
def wk (n : Nat) (f : Nat → Nat → Bool) : Nat → Nat → Nat → Bool
  | 0, a, b => f a b
  | k + 1, a, b => (List.range n).any fun x => f a x && wk n f k x b
theorem wkSucc {n : Nat} {f : Nat → Nat → Bool} {k a b : Nat} : wk n f (k + 1) a b = true ↔ ∃ x, x < n ∧ f a x = true ∧ wk n f k x b = true := by
  rw [wk, List.any_eq_true]
  constructor
  · rintro ⟨x, h1, h2⟩
    rw [Bool.and_eq_true] at h2
    exact ⟨x, List.mem_range.1 h1, h2⟩
  · rintro ⟨x, h1, h2⟩
    exact ⟨x, List.mem_range.2 h1, by rw [Bool.and_eq_true]; exact h2⟩
theorem wkWy {n : Nat} {f : Nat → Nat → Bool} : ∀ {k a b : Nat}, wk n f k a b = true → Wy f n a b
  | 0, _, _, h => wyOne h
  | k + 1, a, b, h => by
    obtain ⟨x, hx, h1, h2⟩ := wkSucc.1 h
    exact wyCons hx h1 (wkWy h2)
theorem wyWk {n : Nat} {f : Nat → Nat → Bool} {a b : Nat} (h : Wy f n a b) : ∃ k, wk n f k a b = true := by
  obtain ⟨L, h1, h2⟩ := h
  induction L generalizing a with
  | nil => exact ⟨0, h2⟩
  | cons x L ih =>
    obtain ⟨k, hk⟩ := ih (fun y hy => h1 y (by simp [hy])) h2.2
    exact ⟨k + 1, wkSucc.2 ⟨x, h1 x (by simp), h2.1, hk⟩⟩
theorem leastOf {p : Nat → Bool} : ∀ k, p k = true → ∃ m, p m = true ∧ ∀ j, j < m → p j = false := by
  intro k
  induction k using Nat.strongRecOn with
  | _ k ih =>
    intro h
    by_cases hj : ∃ j, j < k ∧ p j = true
    · obtain ⟨j, h1, h2⟩ := hj
      exact ih j h1 h2
    · refine ⟨k, h, fun j hj' => ?_⟩
      cases e : p j
      · rfl
      · exact absurd ⟨j, hj', e⟩ hj
open Classical in
/-- The fewest pairs, at least one, that lead from a to b; 0 where none do. -/
noncomputable def dst (n : Nat) (f : Nat → Nat → Bool) (a b : Nat) : Nat :=
  if h : ∃ k, wk n f k a b = true then (choose (leastOf (p := fun k => wk n f k a b) _ (choose_spec h))) + 1 else 0
theorem dstZero {n : Nat} {f : Nat → Nat → Bool} {a b : Nat} : dst n f a b = 0 ↔ ∀ k, wk n f k a b = false := by
  unfold dst
  split
  · rename_i h
    obtain ⟨k, hk⟩ := h
    constructor
    · intro h; omega
    · intro h; rw [h k] at hk; cases hk
  · rename_i h
    refine ⟨fun _ k => ?_, fun _ => rfl⟩
    cases e : wk n f k a b
    · rfl
    · exact absurd ⟨k, e⟩ h
theorem dstSucc {n : Nat} {f : Nat → Nat → Bool} {a b k : Nat} : dst n f a b = k + 1 ↔ wk n f k a b = true ∧ ∀ j, j < k → wk n f j a b = false := by
  unfold dst
  split
  · rename_i h
    have hs := Classical.choose_spec (leastOf (p := fun k => wk n f k a b) _ (Classical.choose_spec h))
    generalize Classical.choose (leastOf (p := fun k => wk n f k a b) _ (Classical.choose_spec h)) = m at *
    constructor
    · intro e
      obtain rfl : m = k := by omega
      exact hs
    · rintro ⟨h1, h2⟩
      rcases Nat.lt_trichotomy m k with h3 | h3 | h3
      · have := h2 m h3; rw [hs.1] at this; cases this
      · omega
      · have := hs.2 k h3; rw [h1] at this; cases this
  · rename_i h
    refine ⟨fun e => by omega, fun ⟨h1, _⟩ => absurd ⟨k, h1⟩ h⟩
theorem dstLe {n : Nat} {f : Nat → Nat → Bool} {a b k : Nat} (h : wk n f k a b = true) : 0 < dst n f a b ∧ dst n f a b ≤ k + 1 := by
  rcases e : dst n f a b with _ | m
  · have := dstZero.1 e k; rw [h] at this; cases this
  · refine ⟨by omega, ?_⟩
    by_cases hm : m ≤ k
    · omega
    · have := (dstSucc.1 e).2 k (by omega); rw [h] at this; cases this
theorem dstWk {n : Nat} {f : Nat → Nat → Bool} {a b : Nat} (h : 0 < dst n f a b) : wk n f (dst n f a b - 1) a b = true := by
  obtain ⟨m, e⟩ : ∃ m, dst n f a b = m + 1 := ⟨dst n f a b - 1, by omega⟩
  rw [e]
  exact (dstSucc.1 e).1
theorem dstOne {n : Nat} {f : Nat → Nat → Bool} {a b : Nat} : dst n f a b = 1 ↔ f a b = true := by
  rw [dstSucc]
  exact ⟨fun h => h.1, fun h => ⟨h, fun j hj => by omega⟩⟩
/-- One pair more: to an element that is one nearer. -/
theorem dstNext {n : Nat} {f : Nat → Nat → Bool} {a b d : Nat} (hd : 0 < d) : dst n f a b = d + 1 ↔ ¬(0 < dst n f a b ∧ dst n f a b ≤ d) ∧ ∃ x, x < n ∧ f a x = true ∧ dst n f x b = d := by
  constructor
  · intro e
    refine ⟨by omega, ?_⟩
    obtain ⟨h1, h2⟩ := dstSucc.1 e
    obtain ⟨m, rfl⟩ : ∃ m, d = m + 1 := ⟨d - 1, by omega⟩
    obtain ⟨x, hx, h3, h4⟩ := wkSucc.1 h1
    refine ⟨x, hx, h3, dstSucc.2 ⟨h4, fun j hj => ?_⟩⟩
    cases e' : wk n f j x b
    · rfl
    · have := h2 (j + 1) (by omega)
      rw [wkSucc.2 ⟨x, hx, h3, e'⟩] at this
      cases this
  · rintro ⟨h1, x, hx, h2, h3⟩
    obtain ⟨m, rfl⟩ : ∃ m, d = m + 1 := ⟨d - 1, by omega⟩
    have := dstLe (wkSucc.2 ⟨x, hx, h2, (dstSucc.1 h3).1⟩)
    omega
/-- What is d + 1 away has something that is d away. -/
theorem dstDown {n : Nat} {f : Nat → Nat → Bool} {b : Nat} : ∀ {k a : Nat} (d : Nat), 0 < d → a < n → dst n f a b = d + k → ∃ x, x < n ∧ dst n f x b = d
  | 0, a, d, _, ha, h => ⟨a, ha, h⟩
  | k + 1, a, d, hd, ha, h => by
    obtain ⟨_, x, hx, _, h2⟩ := (dstNext (by omega)).1 (show dst n f a b = (d + k) + 1 by omega)
    exact dstDown (k := k) d hd hx h2
theorem nodupLe : ∀ {n : Nat} {l : List Nat}, l.Nodup → (∀ x ∈ l, x < n) → l.length ≤ n
  | 0, [], _, _ => Nat.le_refl _
  | 0, x :: l, _, h => absurd (h x (by simp)) (by omega)
  | n + 1, l, hn, h => by
    have h1 := nodupLe (n := n) (l := l.filter (· != n)) (hn.filter _) fun x hx => by
      rw [List.mem_filter] at hx
      have := h x hx.1
      have : x ≠ n := by simpa using hx.2
      omega
    have h2 : l.length ≤ (l.filter (· != n)).length + 1 := by
      clear h1 h
      induction l with
      | nil => simp
      | cons y l ih =>
        have hy := List.nodup_cons.1 hn
        by_cases e : y = n
        · subst e
          have : l.filter (· != y) = l := List.filter_eq_self.2 fun x hx => by
            have : x ≠ y := fun e => hy.1 (e ▸ hx)
            simpa using this
          rw [List.filter_cons_of_neg (by simp), this]
          simp
        · rw [List.filter_cons_of_pos (by simpa using e)]
          have := ih hy.2
          simp
          omega
    omega
/-- The distances go no further than the number of the elements. -/
theorem dstMax {n : Nat} {f : Nat → Nat → Bool} {a b : Nat} (ha : a < n) : dst n f a b ≤ n := by
  rcases Nat.eq_zero_or_pos (dst n f a b) with h0 | h0
  · omega
  have hex : ∀ d, d < dst n f a b → ∃ x, x < n ∧ dst n f x b = d + 1 := fun d hd =>
    dstDown (k := dst n f a b - (d + 1)) (d + 1) (by omega) ha (by omega)
  have : ∀ m, m ≤ dst n f a b → ∃ l : List Nat, l.length = m ∧ l.Nodup ∧ (∀ x ∈ l, x < n ∧ 0 < dst n f x b ∧ dst n f x b ≤ m) := by
    intro m
    induction m with
    | zero => exact fun _ => ⟨[], rfl, List.nodup_nil, by simp⟩
    | succ m ih =>
      intro hm
      obtain ⟨l, h1, h2, h3⟩ := ih (by omega)
      obtain ⟨x, hx, hd⟩ := hex m (by omega)
      refine ⟨x :: l, by simp [h1], List.nodup_cons.2 ⟨fun h => ?_, h2⟩, fun y hy => ?_⟩
      · have := (h3 x h).2.2; omega
      · rcases List.mem_cons.1 hy with rfl | hy
        · exact ⟨hx, by omega, by omega⟩
        · have := h3 y hy; exact ⟨this.1, this.2.1, by omega⟩
  obtain ⟨l, h1, h2, h3⟩ := this _ (Nat.le_refl _)
  rw [← h1]
  exact nodupLe h2 fun x hx => (h3 x hx).1
theorem dstTc {n : Nat} {f : Nat → Nat → Bool} {a b : Nat} : 0 < dst n f a b ↔ tcT n f a b = true := by
  rw [tcIff]
  constructor
  · intro h; exact wkWy (dstWk h)
  · intro h
    obtain ⟨k, hk⟩ := wyWk h
    exact (dstLe hk).1

/-- What is known behind d rounds: the distances up to d, 0 for the rest. -/
noncomputable def dsU (n : Nat) (f : Nat → Nat → Bool) (b d a : Nat) : Nat := if dst n f a b ≤ d then dst n f a b else 0
theorem dsUzero {n : Nat} {f : Nat → Nat → Bool} {b a : Nat} : dsU n f b 0 a = 0 := by unfold dsU; split <;> omega
theorem dsUall {n : Nat} {f : Nat → Nat → Bool} {b a d : Nat} (h : dst n f a b ≤ d) : dsU n f b d a = dst n f a b := by unfold dsU; rw [if_pos h]
theorem dsUpos {n : Nat} {f : Nat → Nat → Bool} {b a d : Nat} : dsU n f b d a ≠ 0 ↔ 0 < dst n f a b ∧ dst n f a b ≤ d := by unfold dsU; split <;> omega
/-- One round: what was not known and has a pair to something that is d away (or, in the first round, to b itself) is d + 1 away. -/
theorem dsUsucc {n : Nat} {f : Nat → Nat → Bool} {b a d : Nat} :
    dsU n f b (d + 1) a = if dsU n f b d a ≠ 0 then dsU n f b d a else if (d = 0 ∧ f a b = true) ∨ (0 < d ∧ ∃ x, x < n ∧ f a x = true ∧ dst n f x b = d) then d + 1 else 0 := by
  by_cases h0 : dsU n f b d a ≠ 0
  · rw [if_pos h0]
    have := dsUpos.1 h0
    rw [dsUall (by omega), dsUall this.2]
  · rw [if_neg h0]
    have hn : ¬(0 < dst n f a b ∧ dst n f a b ≤ d) := fun h => h0 (dsUpos.2 h)
    by_cases hd : d = 0
    · subst hd
      by_cases hf : f a b = true
      · rw [if_pos (.inl ⟨rfl, hf⟩)]
        rw [dsUall (by rw [dstOne.2 hf]; omega), dstOne.2 hf]
      · rw [if_neg (by rintro (⟨_, h⟩ | ⟨h, _⟩); exact hf h; omega)]
        unfold dsU
        split
        · rename_i h
          by_cases h1 : dst n f a b = 1
          · exact absurd (dstOne.1 h1) hf
          · omega
        · rfl
    · by_cases hx : ∃ x, x < n ∧ f a x = true ∧ dst n f x b = d
      · rw [if_pos (.inr ⟨by omega, hx⟩)]
        have := (dstNext (by omega)).2 ⟨hn, hx⟩
        rw [dsUall (by omega), this]
      · rw [if_neg (by rintro (⟨h, _⟩ | ⟨_, h⟩); exact hd h; exact hx h)]
        unfold dsU
        split
        · rename_i h
          by_cases h1 : dst n f a b = d + 1
          · exact absurd ((dstNext (by omega)).1 h1).2 hx
          · omega
        · rfl

/-! The first of the shortest cycles. -/
/-- The first of the elements below k that begin a shortest cycle. -/
noncomputable def bst (n : Nat) (f : Nat → Nat → Bool) : Nat → Option Nat
  | 0 => none
  | k + 1 => match bst n f k with
    | none => if 0 < dst n f k k then some k else none
    | some s => if 0 < dst n f k k ∧ dst n f k k < dst n f s s then some k else some s
theorem bstSome {n : Nat} {f : Nat → Nat → Bool} : ∀ {k s : Nat}, bst n f k = some s → s < k ∧ 0 < dst n f s s
  | 0, _, h => by cases h
  | k + 1, s, h => by
    unfold bst at h
    split at h
    · split at h
      · rename_i h1; injection h with h; subst h; exact ⟨by omega, h1⟩
      · cases h
    · rename_i t ht
      have := bstSome ht
      split at h
      · rename_i h1; injection h with h; subst h; exact ⟨by omega, h1.1⟩
      · injection h with h; subst h; exact ⟨by omega, this.2⟩
theorem bstNone {n : Nat} {f : Nat → Nat → Bool} : ∀ {k : Nat}, bst n f k = none ↔ ∀ a, a < k → dst n f a a = 0
  | 0 => by simp [bst]
  | k + 1 => by
    have ih := bstNone (n := n) (f := f) (k := k)
    unfold bst
    split
    · rename_i h
      have h1 := ih.1 h
      split
      · rename_i h2
        simp only [reduceCtorEq, false_iff]
        intro h3; have := h3 k (by omega); omega
      · rename_i h2
        simp only [true_iff]
        intro a ha
        by_cases e : a = k
        · subst e; omega
        · exact h1 a (by omega)
    · rename_i s h
      have h1 := bstSome h
      have : ¬ ∀ a, a < k + 1 → dst n f a a = 0 := fun h3 => by have := h3 s (by omega); omega
      split <;> simp [this]
/-- From a, the first element to which a pair leads and which is d away. -/
noncomputable def nxt (n : Nat) (f : Nat → Nat → Bool) (b d a : Nat) : Nat := ((List.range n).find? fun x => f a x && dst n f x b == d).getD 0
theorem nxtIs {n : Nat} {f : Nat → Nat → Bool} {b d a : Nat} (hd : 0 < d) (h : dst n f a b = d + 1) :
    nxt n f b d a < n ∧ f a (nxt n f b d a) = true ∧ dst n f (nxt n f b d a) b = d ∧ ∀ x, x < nxt n f b d a → ¬(f a x = true ∧ dst n f x b = d) := by
  obtain ⟨_, x, hx, h1, h2⟩ := (dstNext hd).1 h
  unfold nxt
  rcases e : (List.range n).find? fun x => f a x && dst n f x b == d with _ | y
  · rw [List.find?_eq_none] at e
    have := e x (List.mem_range.2 hx)
    simp [h1, h2] at this
  · have hy := List.find?_some e
    have hm := List.mem_of_find?_eq_some e
    rw [Bool.and_eq_true, beq_iff_eq] at hy
    refine ⟨List.mem_range.1 hm, hy.1, hy.2, fun z hz hc => ?_⟩
    simp only [Option.getD_some] at hz
    rw [List.find?_range_eq_some] at e
    have := e.2.2 z hz
    simp [hc.1, hc.2] at this
/-- What follows a on the first of the shortest ways to b, d - 1 elements. -/
noncomputable def wlk (n : Nat) (f : Nat → Nat → Bool) (b : Nat) : Nat → Nat → List Nat
  | 0, _ => []
  | d + 1, a => nxt n f b (d + 1) a :: wlk n f b d (nxt n f b (d + 1) a)
/-- The first of the shortest cycles. -/
noncomputable def cyc (n : Nat) (f : Nat → Nat → Bool) : List Nat := match bst n f n with
  | none => []
  | some s => s :: wlk n f s (dst n f s s - 1) s
theorem wlkLen {n : Nat} {f : Nat → Nat → Bool} {b : Nat} : ∀ {d a : Nat}, (wlk n f b d a).length = d
  | 0, _ => rfl
  | d + 1, a => by rw [wlk, List.length_cons, wlkLen]
theorem wlkLt {n : Nat} {f : Nat → Nat → Bool} {b : Nat} : ∀ {d a : Nat}, dst n f a b = d + 1 → ∀ x ∈ wlk n f b d a, x < n
  | 0, _, _, x, hx => by cases hx
  | d + 1, a, h, x, hx => by
    have hn := nxtIs (by omega) h
    rcases List.mem_cons.1 hx with rfl | hx
    · exact hn.1
    · exact wlkLt hn.2.2.1 x hx
/-- The last element of the way has a pair to b. -/
theorem wlkLast {n : Nat} {f : Nat → Nat → Bool} {b : Nat} : ∀ {d a : Nat}, dst n f a b = d + 1 → f ((a :: wlk n f b d a).getLast (by simp)) b = true
  | 0, a, h => dstOne.1 h
  | d + 1, a, h => by
    have hn := nxtIs (by omega) h
    have := wlkLast hn.2.2.1
    rw [List.getLast_cons (by rw [wlk]; simp)]
    exact this
theorem cycLast {n : Nat} {f : Nat → Nat → Bool} {s : Nat} (h : bst n f n = some s) : ∃ t, cyc n f = s :: t ∧ s < n ∧ (∀ x ∈ t, x < n) ∧ f ((s :: t).getLast (by simp)) s = true := by
  have h1 := bstSome h
  have h2 : dst n f s s = (dst n f s s - 1) + 1 := by omega
  refine ⟨wlk n f s (dst n f s s - 1) s, by unfold cyc; rw [h], h1.1, wlkLt h2, wlkLast h2⟩
theorem bstAcy {n : Nat} {f : Nat → Nat → Bool} : bst n f n = none ↔ acyT n (tcT n f) := by
  rw [bstNone]
  constructor
  · intro h a ha
    have := h a ha
    cases e : tcT n f a a
    · rfl
    · have := dstTc.2 e; omega
  · intro h a ha
    have := h a ha
    rcases Nat.eq_zero_or_pos (dst n f a a) with h0 | h0
    · exact h0
    · rw [dstTc.1 h0] at this; cases this
end Go.Proofs.YtjioiaeiggjneaaDoor

namespace Go.Proofs.YtjioiaeiggjneaaDoor

theorem rowSnoc (f : Nat → Nat → Bool) (a : Nat) : ∀ k b, rowP f a b (k + 1) = rowP f a b k ++ (if f a (b + k) then [((a : Int), ((b + k : Nat) : Int))] else [])
  | 0, b => by simp [rowP]
  | k + 1, b => by
    rw [rowP, rowSnoc f a k (b + 1), rowP, ← List.append_assoc, show b + 1 + k = b + (k + 1) by omega]
theorem nrmSnoc (f : Nat → Nat → Bool) (n : Nat) : ∀ k a, nrmFrom f n a (k + 1) = nrmFrom f n a k ++ rowP f (a + k) 0 n
  | 0, a => by simp [nrmFrom]
  | k + 1, a => by
    rw [nrmFrom, nrmSnoc f n k (a + 1), nrmFrom, ← List.append_assoc, show a + 1 + k = a + (k + 1) by omega]
/-- The pairs ahead of the place (a, b). -/
def listTo (f : Nat → Nat → Bool) (n a b : Nat) : Prs := nrmFrom f n 0 a ++ rowP f a 0 b
theorem listYes {f : Nat → Nat → Bool} {n a b : Nat} (h : f a b = true) : listTo f n a (b + 1) = listTo f n a b ++ [((a : Int), (b : Int))] := by
  unfold listTo
  rw [rowSnoc, Nat.zero_add, if_pos h, List.append_assoc]
theorem listNo {f : Nat → Nat → Bool} {n a b : Nat} (h : f a b = false) : listTo f n a (b + 1) = listTo f n a b := by
  unfold listTo
  rw [rowSnoc, Nat.zero_add, if_neg (by rw [h]; simp), List.append_nil]
theorem listRow {f : Nat → Nat → Bool} {n a : Nat} : listTo f n a n = listTo f n (a + 1) 0 := by
  unfold listTo
  rw [nrmSnoc, Nat.zero_add]
  simp [rowP]
theorem listEnd {f : Nat → Nat → Bool} {n : Nat} : listTo f n n 0 = nrm n f := by simp [listTo, nrm, rowP]
theorem listLen {f : Nat → Nat → Bool} {n a b : Nat} (ha : a ≤ n) (hb : b ≤ n) : (listTo f n a b).length ≤ n * n + n := by
  unfold listTo
  rw [List.length_append]
  have h1 := lenNrmFrom f n a 0
  have h2 := lenRow f a b 0
  have h3 := Nat.mul_le_mul_right n ha
  omega

/-- F with v at (a, b). -/
def updT (F : Nat → Nat → Bool) (a b : Nat) (v : Bool) (x y : Nat) : Bool := if x = a ∧ y = b then v else F x y

/-! Composition, place by place. -/
def cmpUp (f g : Nat → Nat → Bool) (j a c : Nat) : Bool := (List.range j).any fun b => f a b && g b c
theorem cmpUpSucc {f g : Nat → Nat → Bool} {j a c : Nat} : cmpUp f g (j + 1) a c = (cmpUp f g j a c || (f a j && g j c)) := by
  unfold cmpUp
  rw [List.range_succ, List.any_append, List.any_cons, List.any_nil, Bool.or_false]
def comTo (n : Nat) (f g : Nat → Nat → Bool) (i j k a c : Nat) : Bool :=
  if a < i then cmpT n f g a c else if a = i then (cmpUp f g j a c || (decide (c < k) && (f i j && g j c))) else false
theorem comStart {n : Nat} {f g : Nat → Nat → Bool} {a c : Nat} : comTo n f g 0 0 0 a c = false := by
  unfold comTo cmpUp
  rw [if_neg (by omega)]
  simp
theorem comStep {n : Nat} {f g : Nat → Nat → Bool} {i j k : Nat} (h : f i j = true) (x y : Nat) : updT (comTo n f g i j k) i k (comTo n f g i j k i k || g j k) x y = comTo n f g i j (k + 1) x y := by
  unfold updT comTo
  by_cases hx : x = i
  · subst hx
    simp only [Nat.lt_irrefl, if_false, if_true, true_and, decide_false, Bool.false_and, Bool.or_false]
    by_cases hy : y = k
    · subst hy
      rw [if_pos rfl, h, decide_eq_true (by omega : y < y + 1)]
      simp
    · rw [if_neg hy]
      congr 2
      rw [decide_eq_decide]
      omega
  · rw [if_neg (by omega)]
    simp [hx]
theorem comRow {n : Nat} {f g : Nat → Nat → Bool} {i j k : Nat} (h : k = n ∨ f i j = false) {x y : Nat} (hy : y < n) : comTo n f g i j k x y = comTo n f g i (j + 1) 0 x y := by
  unfold comTo
  rw [cmpUpSucc]
  by_cases hx : x = i
  · subst hx
    rcases h with rfl | h
    · simp [hy]
    · simp [h]
  · simp [hx]
theorem comNext {n : Nat} {f g : Nat → Nat → Bool} {i x y : Nat} : comTo n f g i n 0 x y = comTo n f g (i + 1) 0 0 x y := by
  unfold comTo
  by_cases h1 : x < i
  · rw [if_pos h1, if_pos (by omega)]
  · by_cases h2 : x = i
    · subst h2
      rw [if_neg h1, if_pos rfl, if_pos (by omega)]
      simp [cmpUp, cmpT]
    · rw [if_neg h1, if_neg h2, if_neg (by omega)]
      simp [cmpUp]
theorem comEnd {n : Nat} {f g : Nat → Nat → Bool} {x y : Nat} (hx : x < n) : comTo n f g n 0 0 x y = cmpT n f g x y := by unfold comTo; rw [if_pos hx]

/-! Warshall's table, place by place. -/
noncomputable def wsTo (f : Nat → Nat → Bool) (m a b x y : Nat) : Bool := if x < a ∨ (x = a ∧ y < b) then wsT f (m + 1) x y else wsT f m x y
theorem wsToCol {f : Nat → Nat → Bool} {m a b x : Nat} : wsTo f m a b x m = wsT f m x m := by unfold wsTo; rw [wsCol, ite_self]
theorem wsToRowM {f : Nat → Nat → Bool} {m a b y : Nat} : wsTo f m a b m y = wsT f m m y := by unfold wsTo; rw [wsRow, ite_self]
theorem wsToAt {f : Nat → Nat → Bool} {m a b : Nat} : wsTo f m a b a b = wsT f m a b := by unfold wsTo; rw [if_neg (by omega)]
theorem wsToStep {f : Nat → Nat → Bool} {m a b : Nat} (h : wsT f m a m = true) (x y : Nat) : updT (wsTo f m a b) a b (wsTo f m a b a b || wsTo f m a b m b) x y = wsTo f m a (b + 1) x y := by
  rw [wsToAt, wsToRowM]
  unfold updT
  by_cases e : x = a ∧ y = b
  · obtain ⟨rfl, rfl⟩ := e
    rw [if_pos ⟨rfl, rfl⟩]
    unfold wsTo
    rw [if_pos (by omega), wsSucc, h, Bool.true_and]
  · rw [if_neg e]
    unfold wsTo
    by_cases h1 : x < a ∨ (x = a ∧ y < b)
    · rw [if_pos h1, if_pos (by omega)]
    · rw [if_neg h1, if_neg (by omega)]
theorem wsToRow {n : Nat} {f : Nat → Nat → Bool} {m a b : Nat} (h : b = n ∨ wsT f m a m = false) {x y : Nat} (hy : y < n) : wsTo f m a b x y = wsTo f m (a + 1) 0 x y := by
  unfold wsTo
  by_cases h1 : x = a
  · subst h1
    rw [if_pos (show x < x + 1 ∨ (x = x + 1 ∧ y < 0) by omega)]
    by_cases h2 : y < b
    · rw [if_pos (by omega)]
    · rcases h with rfl | h
      · omega
      · rw [if_neg (by omega), wsSucc, h, Bool.false_and, Bool.or_false]
  · by_cases h2 : x < a
    · rw [if_pos (by omega), if_pos (by omega)]
    · rw [if_neg (by omega), if_neg (by omega)]
theorem wsToNext {n : Nat} {f : Nat → Nat → Bool} {m x y : Nat} (hx : x < n) : wsTo f m n 0 x y = wsTo f (m + 1) 0 0 x y := by
  unfold wsTo
  rw [if_pos (by omega), if_neg (by omega)]
theorem wsToStart {f : Nat → Nat → Bool} {x y : Nat} : wsTo f 0 0 0 x y = f x y := by unfold wsTo; rw [if_neg (by omega), wsZero]
theorem wsToEnd {n : Nat} {f : Nat → Nat → Bool} {x y : Nat} : wsTo f n 0 0 x y = tcT n f x y := by unfold wsTo; rw [if_neg (by omega), wsEnd]

/-! The reduction, place by place. -/
def rdTo (n : Nat) (t : Nat → Nat → Bool) (a b x y : Nat) : Bool := decide (x < a ∨ (x = a ∧ y < b)) && redT n t x y
def rdIn (n : Nat) (t : Nat → Nat → Bool) (a b k x y : Nat) : Bool := if x = a ∧ y = b then (t a b && !cmpUp t t k a b) else rdTo n t a b x y
theorem rdStart {n : Nat} {t : Nat → Nat → Bool} {x y : Nat} : rdTo n t 0 0 x y = false := by unfold rdTo; rw [decide_eq_false (by omega), Bool.false_and]
theorem rdPut {n : Nat} {t : Nat → Nat → Bool} {a b : Nat} (x y : Nat) : updT (rdTo n t a b) a b (t a b) x y = rdIn n t a b 0 x y := by
  unfold updT rdIn cmpUp
  simp
theorem rdHit {n : Nat} {t : Nat → Nat → Bool} {a b k : Nat} (h : t a k = true) (h' : t k b = true) (x y : Nat) : updT (rdIn n t a b k) a b false x y = rdIn n t a b (k + 1) x y := by
  unfold updT rdIn
  by_cases e : x = a ∧ y = b
  · rw [if_pos e, if_pos e, cmpUpSucc, h, h']; simp
  · rw [if_neg e, if_neg e, if_neg e]
theorem rdMiss {n : Nat} {t : Nat → Nat → Bool} {a b k : Nat} (h : t a k = false ∨ t k b = false) (x y : Nat) : rdIn n t a b k x y = rdIn n t a b (k + 1) x y := by
  unfold rdIn
  rw [cmpUpSucc]
  rcases h with h | h <;> rw [h] <;> simp
theorem rdNext {n : Nat} {t : Nat → Nat → Bool} {a b : Nat} (x y : Nat) : rdIn n t a b n x y = rdTo n t a (b + 1) x y := by
  unfold rdIn rdTo
  by_cases e : x = a ∧ y = b
  · obtain ⟨rfl, rfl⟩ := e
    rw [if_pos ⟨rfl, rfl⟩, decide_eq_true (by omega), Bool.true_and]
    rfl
  · rw [if_neg e]
    congr 1
    rw [decide_eq_decide]
    omega
theorem rdRow {n : Nat} {t : Nat → Nat → Bool} {a x y : Nat} (hy : y < n) : rdTo n t a n x y = rdTo n t (a + 1) 0 x y := by
  unfold rdTo
  congr 1
  rw [decide_eq_decide]
  omega
theorem rdEnd {n : Nat} {t : Nat → Nat → Bool} {x y : Nat} (hx : x < n) : rdTo n t n 0 x y = redT n t x y := by unfold rdTo; rw [decide_eq_true (by omega), Bool.true_and]
end Go.Proofs.YtjioiaeiggjneaaDoor

namespace Go.Proofs.YtjioiaeiggjneaaDoor

/-- In round d, with the elements below a gone through. -/
noncomputable def disTo (n : Nat) (f : Nat → Nat → Bool) (t d a x : Nat) : Nat := if x < a then dsU n f t d x else dsU n f t (d - 1) x
theorem disStart {n : Nat} {f : Nat → Nat → Bool} {t x : Nat} : disTo n f t 1 0 x = 0 := by unfold disTo; rw [if_neg (by omega), dsUzero]
theorem disRow {n : Nat} {f : Nat → Nat → Bool} {t d x : Nat} (hx : x < n) : disTo n f t d n x = disTo n f t (d + 1) 0 x := by
  unfold disTo
  rw [if_pos hx, if_neg (by omega), Nat.add_sub_cancel]
theorem disEnd {n : Nat} {f : Nat → Nat → Bool} {t x : Nat} (hx : x < n) : disTo n f t (n + 1) 0 x = dst n f x t := by
  unfold disTo
  rw [if_neg (by omega), Nat.add_sub_cancel, dsUall (dstMax hx)]
/-- What the test of the inner loop says at b. -/
noncomputable def disHit (n : Nat) (f : Nat → Nat → Bool) (t d a b : Nat) : Bool := f a b && ((decide (d = 1) && decide (b = t)) || (decide (1 < d) && decide (disTo n f t d a b = d - 1)))
noncomputable def disAny (n : Nat) (f : Nat → Nat → Bool) (t d a k : Nat) : Bool := (List.range k).any fun b => disHit n f t d a b
theorem disAnySucc {n : Nat} {f : Nat → Nat → Bool} {t d a k : Nat} : disAny n f t d a (k + 1) = (disAny n f t d a k || disHit n f t d a k) := by
  unfold disAny
  rw [List.range_succ, List.any_append, List.any_cons, List.any_nil, Bool.or_false]
theorem disPrev {n : Nat} {f : Nat → Nat → Bool} {t d a b : Nat} (hd : 1 < d) : disTo n f t d a b = d - 1 ↔ dst n f b t = d - 1 := by
  unfold disTo dsU
  repeat' split
  all_goals omega
theorem disAnyIff {n : Nat} {f : Nat → Nat → Bool} {t d a : Nat} (hd : 0 < d) (ht : t < n) : disAny n f t d a n = true ↔ ((d - 1 = 0 ∧ f a t = true) ∨ (0 < d - 1 ∧ ∃ x, x < n ∧ f a x = true ∧ dst n f x t = d - 1)) := by
  unfold disAny
  rw [List.any_eq_true]
  constructor
  · rintro ⟨b, hb, h⟩
    have hb := List.mem_range.1 hb
    unfold disHit at h
    rw [Bool.and_eq_true, Bool.or_eq_true, Bool.and_eq_true, Bool.and_eq_true, decide_eq_true_iff, decide_eq_true_iff, decide_eq_true_iff, decide_eq_true_iff] at h
    obtain ⟨h1, ⟨h2, rfl⟩ | ⟨h2, h3⟩⟩ := h
    · exact .inl ⟨by omega, h1⟩
    · exact .inr ⟨by omega, b, hb, h1, (disPrev h2).1 h3⟩
  · rintro (⟨h1, h2⟩ | ⟨h1, x, h2, h3, h4⟩)
    · refine ⟨t, List.mem_range.2 ht, ?_⟩
      unfold disHit
      rw [h2, decide_eq_true (show d = 1 by omega), decide_eq_true rfl]
      rfl
    · refine ⟨x, List.mem_range.2 h2, ?_⟩
      unfold disHit
      rw [h3, decide_eq_true (show 1 < d by omega), decide_eq_true ((disPrev (by omega)).2 h4)]
      simp
theorem disSucc {n : Nat} {f : Nat → Nat → Bool} {t d a : Nat} (hd : 0 < d) (ht : t < n) : dsU n f t d a = if dsU n f t (d - 1) a ≠ 0 then dsU n f t (d - 1) a else if disAny n f t d a n = true then d else 0 := by
  obtain ⟨e, rfl⟩ : ∃ e, d = e + 1 := ⟨d - 1, by omega⟩
  rw [Nat.add_sub_cancel, dsUsucc]
  by_cases h : disAny n f t (e + 1) a n = true
  · have h1 := (disAnyIff hd ht).1 h
    rw [Nat.add_sub_cancel] at h1
    simp only [if_pos h, if_pos h1]
  · have h1 : ¬ ((e = 0 ∧ f a t = true) ∨ (0 < e ∧ ∃ x, x < n ∧ f a x = true ∧ dst n f x t = e)) := fun h1 => h ((disAnyIff hd ht).2 (by rw [Nat.add_sub_cancel]; exact h1))
    simp only [if_neg h, if_neg h1]
theorem disAt {n : Nat} {f : Nat → Nat → Bool} {t d a : Nat} : disTo n f t d a a = dsU n f t (d - 1) a := by unfold disTo; rw [if_neg (by omega)]
theorem disSet {n : Nat} {f : Nat → Nat → Bool} {t d a : Nat} (hd : 0 < d) (ht : t < n) (h0 : disTo n f t d a a = 0) (h : disAny n f t d a n = true) (x : Nat) : (if x = a then d else disTo n f t d a x) = disTo n f t d (a + 1) x := by
  rw [disAt] at h0
  by_cases e : x = a
  · subst e
    rw [if_pos rfl]
    unfold disTo
    rw [if_pos (by omega), disSucc hd ht, if_neg (by rw [h0]; simp), if_pos h]
  · rw [if_neg e]
    unfold disTo
    by_cases h1 : x < a
    · rw [if_pos h1, if_pos (by omega)]
    · rw [if_neg h1, if_neg (by omega)]
theorem disKeep {n : Nat} {f : Nat → Nat → Bool} {t d a : Nat} (hd : 0 < d) (ht : t < n) (h : disTo n f t d a a ≠ 0 ∨ disAny n f t d a n = false) (x : Nat) : disTo n f t d a x = disTo n f t d (a + 1) x := by
  rw [disAt] at h
  by_cases e : x = a
  · subst e
    rw [disAt]
    unfold disTo
    rw [if_pos (by omega), disSucc hd ht]
    by_cases h0 : dsU n f t (d - 1) x = 0
    · rw [if_neg (by rw [h0]; simp), if_neg (by rw [h.resolve_left (by rw [h0]; simp)]; simp), h0]
    · rw [if_pos h0]
  · unfold disTo
    by_cases h1 : x < a
    · rw [if_pos h1, if_pos (by omega)]
    · rw [if_neg h1, if_neg (by omega)]
end Go.Proofs.YtjioiaeiggjneaaDoor

namespace Go.Proofs.YtjioiaeiggjneaaDoor

/-- Warshall's table, reckoned. -/
def cw (f : Nat → Nat → Bool) : Nat → Nat → Nat → Bool
  | 0, a, b => f a b
  | m + 1, a, b => cw f m a b || (cw f m a m && cw f m m b)
theorem wsC (f : Nat → Nat → Bool) : ∀ m a b, wsT f m a b = cw f m a b
  | 0, _, _ => wsZero
  | m + 1, a, b => by rw [wsSucc, wsC f m, wsC f m, wsC f m, cw]
theorem tcC (n : Nat) (f : Nat → Nat → Bool) (a b : Nat) : tcT n f a b = cw f n a b := by
  rw [← wsC, Bool.eq_iff_iff, tcIff, wsIff]
/-- The distances up to d, reckoned. -/
def cdU (n : Nat) (f : Nat → Nat → Bool) (b : Nat) : Nat → Nat → Nat
  | 0, _ => 0
  | d + 1, a => if cdU n f b d a ≠ 0 then cdU n f b d a else if (d == 0 && f a b) || (List.range n).any (fun x => decide (0 < d) && f a x && cdU n f b d x == d) then d + 1 else 0
theorem dsUis {n : Nat} {f : Nat → Nat → Bool} {b x d : Nat} (hd : 0 < d) : dsU n f b d x = d ↔ dst n f x b = d := by
  unfold dsU
  split <;> omega
theorem dsUC (n : Nat) (f : Nat → Nat → Bool) (b : Nat) : ∀ d a, dsU n f b d a = cdU n f b d a
  | 0, _ => dsUzero
  | d + 1, a => by
    rw [dsUsucc, cdU, dsUC n f b d a]
    by_cases h0 : cdU n f b d a ≠ 0
    · rw [if_pos h0, if_pos h0]
    · rw [if_neg h0, if_neg h0]
      have e : ((d = 0 ∧ f a b = true) ∨ (0 < d ∧ ∃ x, x < n ∧ f a x = true ∧ dst n f x b = d)) ↔ ((d == 0 && f a b) || (List.range n).any (fun x => decide (0 < d) && f a x && cdU n f b d x == d)) = true := by
        rw [Bool.or_eq_true, Bool.and_eq_true, beq_iff_eq, List.any_eq_true]
        constructor
        · rintro (h | ⟨hd, x, hx, h1, h2⟩)
          · exact .inl h
          · refine .inr ⟨x, List.mem_range.2 hx, ?_⟩
            rw [← dsUC n f b d x, decide_eq_true hd, h1, (dsUis hd).2 h2]
            simp
        · rintro (h | ⟨x, hx, h1⟩)
          · exact .inl h
          · rw [Bool.and_eq_true, Bool.and_eq_true, decide_eq_true_iff, beq_iff_eq, ← dsUC n f b d x] at h1
            exact .inr ⟨h1.1.1, x, List.mem_range.1 hx, h1.1.2, (dsUis h1.1.1).1 h1.2⟩
      by_cases h : (d = 0 ∧ f a b = true) ∨ (0 < d ∧ ∃ x, x < n ∧ f a x = true ∧ dst n f x b = d)
      · rw [if_pos h, if_pos (e.1 h)]
      · rw [if_neg h, if_neg fun h' => h (e.2 h')]
theorem dstC {n : Nat} {f : Nat → Nat → Bool} {a b : Nat} (ha : a < n) : dst n f a b = cdU n f b n a := by
  rw [← dsUC, dsUall (dstMax ha)]
def cb (n : Nat) (f : Nat → Nat → Bool) : Nat → Option Nat
  | 0 => none
  | k + 1 => match cb n f k with
    | none => if 0 < cdU n f k n k then some k else none
    | some s => if 0 < cdU n f k n k ∧ cdU n f k n k < cdU n f s n s then some k else some s
theorem bstC (n : Nat) (f : Nat → Nat → Bool) : ∀ k, k ≤ n → bst n f k = cb n f k
  | 0, _ => rfl
  | k + 1, h => by
    have ih := bstC n f k (by omega)
    rw [bst, cb]
    rcases e : bst n f k with _ | s
    · rw [← ih, e, dstC (by omega)]
    · have hs := (bstSome e).1
      rw [← ih, e, dstC (by omega)]
      show (if 0 < cdU n f k n k ∧ cdU n f k n k < dst n f s s then some k else some s) = if 0 < cdU n f k n k ∧ cdU n f k n k < cdU n f s n s then some k else some s
      rw [dstC (show s < n by omega)]
def cn (n : Nat) (f : Nat → Nat → Bool) (b d a : Nat) : Nat := ((List.range n).find? fun x => f a x && cdU n f b n x == d).getD 0
theorem findCongr {p q : Nat → Bool} : ∀ {l : List Nat}, (∀ x ∈ l, p x = q x) → l.find? p = l.find? q
  | [], _ => rfl
  | x :: l, h => by rw [List.find?_cons, List.find?_cons, h x (by simp), findCongr fun y hy => h y (by simp [hy])]
theorem nxtC (n : Nat) (f : Nat → Nat → Bool) (b d a : Nat) : nxt n f b d a = cn n f b d a := by
  unfold nxt cn
  rw [findCongr fun x hx => by rw [dstC (List.mem_range.1 hx)]]
def ck (n : Nat) (f : Nat → Nat → Bool) (b : Nat) : Nat → Nat → List Nat
  | 0, _ => []
  | d + 1, a => cn n f b (d + 1) a :: ck n f b d (cn n f b (d + 1) a)
theorem wlkC (n : Nat) (f : Nat → Nat → Bool) (b : Nat) : ∀ d a, wlk n f b d a = ck n f b d a
  | 0, _ => rfl
  | d + 1, a => by rw [wlk, ck, nxtC, wlkC n f b d]
def cc (n : Nat) (f : Nat → Nat → Bool) : List Nat := match cb n f n with
  | none => []
  | some s => s :: ck n f s (cdU n f s n s - 1) s
theorem cycC (n : Nat) (f : Nat → Nat → Bool) : cyc n f = cc n f := by
  unfold cyc cc
  rw [← bstC n f n (Nat.le_refl _)]
  rcases e : bst n f n with _ | s
  · rfl
  · have hs := (bstSome e).1
    show s :: wlk n f s (dst n f s s - 1) s = s :: ck n f s (cdU n f s n s - 1) s
    rw [wlkC, dstC hs]
/-- The chapter's example. -/
def exA : Prs := [(0, 1), (1, 2), (0, 2)]
def exB : Prs := [(2, 1), (1, 2), (0, 1)]
theorem exClo : nrm 4 (tcT 4 (hasP exA)) = [(0, 1), (0, 2), (1, 2)] := by
  rw [show tcT 4 (hasP exA) = cw (hasP exA) 4 from funext fun a => funext fun b => tcC 4 _ a b]
  decide
theorem exRed : nrm 4 (redT 4 (tcT 4 (hasP exA))) = [(0, 1), (1, 2)] := by
  rw [show tcT 4 (hasP exA) = cw (hasP exA) 4 from funext fun a => funext fun b => tcC 4 _ a b]
  decide
theorem exAcy : acyT 4 (tcT 4 (hasP exA)) := by
  rw [show tcT 4 (hasP exA) = cw (hasP exA) 4 from funext fun a => funext fun b => tcC 4 _ a b]
  unfold acyT
  decide
theorem exCyc : cyc 4 (hasP exB) = [1, 2] := by
  rw [cycC]
  decide
theorem exNot : ¬ acyT 4 (tcT 4 (hasP exB)) := fun h => by
  have := bstAcy.2 h
  rw [bstC 4 _ 4 (Nat.le_refl _)] at this
  revert this
  decide
end Go.Proofs.YtjioiaeiggjneaaDoor
